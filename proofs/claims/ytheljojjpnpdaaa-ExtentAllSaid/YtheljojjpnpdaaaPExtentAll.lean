/- ExtentAll: rows of sectors are taken, the first that has as many, used, given back: just those that are free are free: for every input the law returns true. -/
import Derived.Test.YtheljojjpnpdaaaRows
import Derived.WalkKit
import Derived.ProofKit
import Derived.OpenShut
import Derived.ShutString
import Derived.ChangeOld
import Derived.Below
import Derived.Test.YtheljojjpnpdaaaOpsE
import Derived.Test.YtheljojjpnpdaaaExtA
import Derived.Deep.QuietTactic
import Derived.BigQuiet
namespace Go.Proofs.Ytheljojjpnpdaaa.extentAll
open Go.ChangeShapes Go.WideShapes Go.ChangeAt Go.RowKit
open Go.ChangeMaps (open_string shut_string)
set_option linter.unusedVariables false

theorem own : ownKnob Try.prog.godebug = none := by kernel_rfl
theorem laidOut : laidOutB Try.prog = true := by kernel_rfl

set_option maxHeartbeats 4000000 in
set_option maxRecDepth 100000 in
theorem walk (w : World) (a0 : Int) (w0 : (Lit.int .i64 a0).wf = true) (a1 : Int) (w1 : (Lit.int .i64 a1).wf = true) (a2 : Option Addr) (len2 cap2 : Nat) (l2 : List OpE) (w2 : ROpE w (.slice a2 len2 cap2) l2) :
    Calls Try.prog 3 #[.int .i64 a0, .int .i64 a1, .slice a2 len2 cap2] w fun e w' => e = .returned (.bool true) ∧ Below w.heap.size w w' := by
  clear w0 w1
  have HL := Go.Lib.hid w2
  have hl63 := w2.len.2
  clear w2
  go_enter Try.func3, Try.ntmps3
  go_wp2_with fail
  refine (begun_c _).mono ?_
  rintro e w2 ⟨rfl, k2⟩
  by_cases h1 : a0 < 0
  · as_aux_lemma =>
      go_wp2_with fail
      go_ret
      exact ⟨rfl, k2⟩
  by_cases h2 : 50 < a0
  · as_aux_lemma =>
      go_wp2_with fail
      go_ret
      exact ⟨rfl, k2⟩
  by_cases h3 : a1 < 0
  · as_aux_lemma =>
      go_wp2_with fail
      go_ret
      exact ⟨rfl, k2⟩
  by_cases h4 : 60 < a1
  · as_aux_lemma =>
      go_wp2_with fail
      go_ret
      exact ⟨rfl, k2⟩
  obtain ⟨a, rfl⟩ : ∃ a : Nat, a0 = (a : Int) := ⟨a0.toNat, by omega⟩
  obtain ⟨n, rfl⟩ : ∃ n : Nat, a1 = (n : Int) := ⟨a1.toNat, by omega⟩
  have hA1 := Go.Lib.hid (show a ≤ 50 by omega)
  have hN1 := Go.Lib.hid (show n ≤ 60 by omega)
  clear h1 h3
  have C1 := Go.Lib.hid (new_q w2 a n _ _ (iv a (a + n)) rfl rfl (by have := hN1.out; omega) (by have := hN1.out; have := hA1.out; omega) rfl)
  have K2 := Go.Lib.hid k2; clear k2
  go_wp2_with fail
  refine C1.out.mono ?_
  rintro e w3 ⟨r, v, rfl, hr3, hb3⟩
  have HR3 := Go.Lib.hid (hr3.mono K2.out.size)
  have HB3 := Go.Lib.hid (below_on K2.out hb3)
  clear C1 hr3 hb3 K2
  obtain ⟨E, hE⟩ : ∃ E : Int, E = (a : Int) + (n : Int) := ⟨_, rfl⟩
  have kE : IntKind.i64.wrap ((a : Int) + (n : Int)) = E := by rw [hE, IntKind.wrap_i64]; have := hN1.out; have := hA1.out; omega
  have HE := Go.Lib.hid hE
  clear hE
  go_wp2_with (first
    | (with_reducible show wpList _ _ _ (⟨some 46, _, _, _, _, _⟩ :: _) _ _; go_loud (refine wpList_make_zb rfl (.const (.int .i64 130)) (.const (.int .i64 130)) 26 rfl 4 Try.underlying26 infoBl .i64 .i64 130 130 rfl rfl rfl (by decide) ?_); intro v4 w4 ho4 hb4; rw [← zf_rep] at ho4; obtain ⟨g, c, rfl⟩ := ho4.fform (Nat.zero_lt_succ 129); have HO4 := Go.Lib.hid ho4; have HB4 := Go.Lib.hid hb4; clear ho4 hb4)
    | fail)
  have hap : Apart3 r g v := by
    have hg := HO4.out.lt.2
    refine ⟨?_, ?_⟩
    · have := HR3.out.lt; omega
    · cases hv : v.ownBlock with
      | none => exact .inl rfl
      | some k => exact .inr (by have := (World.ownsRow.lt HR3.out.row k hv).2; simp; omega)
  have AP := Go.Lib.hid hap
  have HZ := Go.Lib.hid (show SZ w w4 r a n g c v (iv a (a + n)) (setF (fun _ => false) a 0 true) from ⟨HR3.out.below HB4.out, by rw [setF_zero]; exact HO4.out.mono HB3.out.size, below_on HB3.out HB4.out⟩)
  clear hap HR3 HB3 HO4 HB4
  go_loopw [10] (fun kv wr => ∃ k : Nat, k ≤ n ∧ kv = .int .i64 ((a + k : Nat) : Int) ∧ SZ w wr r a n g c v (iv a (a + n)) (setF (fun _ => false) a k true)) (fun kv _ => a + n - (intOf kv).toNat)
  case atStart => exact ⟨0, by omega, rfl, HZ.out⟩
  case round =>
    obtain ⟨k, hk, rfl, hz⟩ := hrel
    clear HZ
    by_cases hkn : k < n
    · have hlt : ((a + k : Nat) : Int) < E := by rw [HE.out]; omega
      have hcell := hz.fr.fcell (a + k) (by have := hA1.out; have := hN1.out; omega)
      have hfz := hz.fr.fz (a + k)
      obtain ⟨t, ht⟩ : ∃ t, t = setF (fun _ => false) a k true (a + k) := ⟨_, rfl⟩
      rw [← ht] at hcell
      have hz2 := hz.set AP.out (a + k) true
      rw [setF_snoc] at hz2
      have HZ2 := Go.Lib.hid hz2
      have HK := Go.Lib.hid hkn
      obtain ⟨P, hP⟩ : ∃ P, P = a + k := ⟨_, rfl⟩
      have HP := Go.Lib.hid hP
      rw [← hP] at hlt hcell hfz HZ2 ⊢
      have hP130 : P < 130 := by have := hA1.out; have := hN1.out; omega
      clear ht hz hz2 hP hk hkn
      go_wp2_with fail
      go_roundw
      case rel => exact ⟨k + 1, by have := HK.out; omega, by have := HP.out; go_num, HZ2.out⟩
      case measure => simp only [intOf]; have := HP.out; have := HK.out; omega
    · have hlt : ¬ ((a + k : Nat) : Int) < E := by rw [HE.out]; omega
      obtain rfl : k = n := by omega
      have hz3 : SZ w wr r a k g c v (iv a (a + k)) (iv a (a + k)) := ⟨hz.rm, by rw [show zf 130 (iv a (a + k)) = zf 130 (setF (fun _ => false) a k true) from zf_congr fun i _ => rfl]; exact hz.fr, hz.bel⟩
      have HZ3 := Go.Lib.hid hz3
      clear hz hz3 hkn hk
      go_wp2_with fail
      go_loopw [11] (fun iv' wx => ∃ (i : Nat) (G : Nat → Bool), i ≤ 60 ∧ i ≤ len2 ∧ iv' = .int .i64 (i : Int) ∧ Hid (SZ w wx r a k g c v G G)) (fun iv' _ => 60 - (intOf iv').toNat)
      case atStart => exact ⟨0, _, by omega, by omega, rfl, HZ3⟩
      case round =>
        obtain ⟨i, G, hi60, hil, rfl, hZ⟩ := hrel
        clear HZ3
        by_cases hin : i < len2 ∧ i < 60
        · obtain ⟨hi2, hi⟩ := hin
          have hiI : (i : Int) < (len2 : Int) := by omega
          have hiI2 : (i : Int) < 60 := by omega
          obtain ⟨b, o, x, rfl, hok, hx, c0, c1, c2⟩ := (HL.out.below hZ.out.bel).get i hi2
          obtain ⟨kd, A, N⟩ := x
          simp only at c0 c1 c2
          have bk := bounds_i64 hok.wk
          have ba := bounds_i64 hok.wa
          have bn := bounds_i64 hok.wn
          simp only at bk ba bn
          have BK := Go.Lib.hid bk
          have BA := Go.Lib.hid ba
          have BN := Go.Lib.hid bn
          have HS := Go.Lib.hid (SO.made hZ.out kd A N)
          have HI := Go.Lib.hid hi
          have HI2 := Go.Lib.hid hi2
          clear hok hx bk ba bn hi60 hil hi hi2 hZ
          go_upto_region 16 with (fail)
          clear c0 c1 c2
          obtain ⟨I, hI⟩ : ∃ I, I = inB a k A N := ⟨_, rfl⟩
          go_cut [13, 14] (fun xv yv wx => xv = .bool I ∧ yv = .bool I ∧ Hid (SO w wx r a k g c v G G wr.heap.size kd A N))
          case first =>
            have o1 := HS.out.o1
            have o2 := HS.out.o2
            by_cases q1 : 1 ≤ N
            · by_cases q2 : (a : Int) ≤ A
              · obtain ⟨F, hF⟩ : ∃ F : Int, F = E - A := ⟨_, rfl⟩
                have kF : IntKind.i64.wrap (E - A) = F := by rw [hF, IntKind.wrap_i64]; have := HE.out; have := BA.out; have := hA1.out; have := hN1.out; omega
                by_cases q3 : N ≤ F
                · have hIt : I = true := by rw [hI]; unfold inB; simp; have := HE.out; omega
                  subst hIt
                  clear hI
                  clear hF
                  as_aux_lemma =>
                    go_quiet (fail)
                    go_wp2_with fail
                    go_meet
                    exact ⟨rfl, rfl, Go.Lib.hid (HS.out.drew _)⟩
                · have hIt : I = false := by rw [hI]; unfold inB; simp; have := HE.out; omega
                  subst hIt
                  clear hI
                  clear hF
                  as_aux_lemma =>
                    go_quiet (fail)
                    go_wp2_with fail
                    go_meet
                    exact ⟨rfl, rfl, Go.Lib.hid (HS.out.drew _)⟩
              · have hIt : I = false := by rw [hI]; unfold inB; simp; omega
                subst hIt
                clear hI
                as_aux_lemma =>
                  go_quiet (fail)
                  go_wp2_with fail
                  go_meet
                  exact ⟨rfl, rfl, Go.Lib.hid (HS.out.drew _)⟩
            · have hIt : I = false := by rw [hI]; unfold inB; simp; omega
              subst hIt
              clear hI
              as_aux_lemma =>
                go_quiet (fail)
                go_wp2_with fail
                go_meet
                exact ⟨rfl, rfl, Go.Lib.hid (HS.out.drew _)⟩
          case rest =>
            obtain ⟨rfl, rfl, hS⟩ := hcut
            clear HS
            have HIb := Go.Lib.hid hI
            clear hI
            have o0 := hS.out.o0
            have o1 := hS.out.o1
            have o2 := hS.out.o2
            obtain ⟨bo, hbo⟩ : ∃ bo, bo = wr.heap.size := ⟨_, rfl⟩
            rw [← hbo] at hS o0 o1 o2 ⊢
            clear hbo
            go_wp2_with fail
            go_loopw [13, 15] (fun av kv wx => ∃ (j : Nat) (t : Bool) (K : Int), av = .bool t ∧ kv = .int .i64 K ∧ Hid (K = A + j) ∧ Hid (t = (I && runB G true A.toNat j)) ∧ Hid (I = true → j ≤ N.toNat) ∧ Hid (SO w wx r a k g c v G G bo kd A N)) (fun _ kv _ => (N - (intOf kv - A)).toNat)
            case atStart => exact ⟨0, I, A, rfl, rfl, Go.Lib.hid (by simp), Go.Lib.hid (by rw [runB_zero]; simp), Go.Lib.hid (fun _ => by omega), hS⟩
            case round =>
              clear hS o0 o1 o2
              obtain ⟨j, t, K, rfl, rfl, hK, ht, hj, hS⟩ := hrel
              have o1 := hS.out.o1
              have o2 := hS.out.o2
              go_upto_region 18 with (fail)
              go_cut [123] (fun xv wx => xv = .bool (t && decide (j < N.toNat)) ∧ Hid (SO w wx r a k g c v G G bo kd A N))
              case first =>
                cases t with
                | false =>
                  as_aux_lemma =>
                    go_wp2_with fail
                    go_meet
                    exact ⟨by simp, hS⟩
                | true =>
                  have hIt : I = true := by have := ht.out; revert this; cases I <;> simp
                  obtain ⟨p, m, hp, hm, hm0, hap, hpm⟩ := inB_true (HIb.out.symm.trans hIt)
                  obtain ⟨S, hSd⟩ : ∃ S : Int, S = A + N := ⟨_, rfl⟩
                  have kS : IntKind.i64.wrap (A + N) = S := by rw [hSd, IntKind.wrap_i64]; have := hA1.out; have := hN1.out; omega
                  by_cases hjm : j < N.toNat
                  · have hlt : K < S := by rw [hSd, hK.out]; omega
                    have hd := Go.Lib.hid (show (true && decide (j < N.toNat)) = true by simp [hjm])
                    clear hjm hSd hp hm hpm hap hIt
                    as_aux_lemma =>
                      go_wp2_with fail
                      go_meet
                      exact ⟨by rw [hd.out], hS⟩
                  · have hlt : ¬ K < S := by rw [hSd, hK.out]; omega
                    have hd := Go.Lib.hid (show (true && decide (j < N.toNat)) = false by simp [hjm])
                    clear hjm hSd hp hm hpm hap hIt
                    as_aux_lemma =>
                      go_wp2_with fail
                      go_meet
                      exact ⟨by rw [hd.out], hS⟩
              case rest =>
                clear hS o1 o2
                obtain ⟨rfl, hS⟩ := hcut
                have o0 := hS.out.o0
                have o1 := hS.out.o1
                have o2 := hS.out.o2
                cases hb : (t && decide (j < N.toNat)) with
                | true =>
                  obtain ⟨rfl, hjm⟩ : t = true ∧ j < N.toNat := by revert hb; cases t <;> simp
                  have hIt : I = true := by have := ht.out; revert this; cases I <;> simp
                  obtain ⟨p, m, hp, hm, hm0, hap, hpm⟩ := inB_true (HIb.out.symm.trans hIt)
                  obtain ⟨P, hP⟩ : ∃ P : Nat, P = p + j := ⟨_, rfl⟩
                  have hKP : K = (P : Int) := by rw [hK.out, hp, hP]; omega
                  have hP130 : P < 130 := by have := hA1.out; have := hN1.out; omega
                  have hc := hS.out.z.fr.fcell P hP130
                  have hAp : A.toNat + j = P := by omega
                  obtain ⟨y, hy⟩ : ∃ y, y = G P := ⟨_, rfl⟩
                  rw [← hy] at hc
                  have HT := Go.Lib.hid (show y = (I && runB G true A.toNat (j + 1)) by rw [runB_succ, hAp, ← hy, hIt]; have := ht.out; rw [hIt] at this; revert this; cases runB G true A.toNat j <;> cases y <;> simp)
                  have HJ := Go.Lib.hid (show I = true → j + 1 ≤ N.toNat from fun _ => by omega)
                  have HK := Go.Lib.hid (show K + 1 = A + ((j + 1 : Nat) : Int) by rw [hK.out]; omega)
                  have HM := Go.Lib.hid (show (N - (K + 1 - A)).toNat < (N - (K - A)).toNat by rw [hK.out]; omega)
                  subst hKP
                  clear hb ht hK hj hIt hp hm hm0 hap hpm hP hAp hy hjm
                  as_aux_lemma =>
                    go_wp2_with fail
                    go_roundw
                    case rel => exact ⟨j + 1, _, (P : Int) + 1, rfl, by go_num, HK, HT, HJ, hS⟩
                    case measure => simp only [intOf]; exact HM.out
                | false =>
                  have T1 := Go.Lib.hid (loop_end ht.out hj.out hb)
                  clear hb ht hj hK
                  obtain ⟨t1, ht1⟩ : ∃ t1, t1 = t := ⟨_, rfl⟩
                  rw [← ht1] at T1 ⊢
                  clear ht1
                  go_wp2_with fail
                  go_loopw [14, 16] (fun av kv wx => ∃ (j : Nat) (t : Bool) (K : Int), av = .bool t ∧ kv = .int .i64 K ∧ Hid (K = A + j) ∧ Hid (t = (I && runB G false A.toNat j)) ∧ Hid (I = true → j ≤ N.toNat) ∧ Hid (SO w wx r a k g c v G G bo kd A N)) (fun _ kv _ => (N - (intOf kv - A)).toNat)
                  case atStart => exact ⟨0, I, A, rfl, rfl, Go.Lib.hid (by simp), Go.Lib.hid (by rw [runB_zero]; simp), Go.Lib.hid (fun _ => by omega), hS⟩
                  case round =>
                    clear hS o0 o1 o2
                    obtain ⟨j, t, K, rfl, rfl, hK, ht, hj, hS⟩ := hrel
                    have o1 := hS.out.o1
                    have o2 := hS.out.o2
                    go_upto_region 22 with (fail)
                    go_cut [141] (fun xv wx => xv = .bool (t && decide (j < N.toNat)) ∧ Hid (SO w wx r a k g c v G G bo kd A N))
                    case first =>
                      cases t with
                      | false =>
                        as_aux_lemma =>
                          go_wp2_with fail
                          go_meet
                          exact ⟨by simp, hS⟩
                      | true =>
                        have hIt : I = true := by have := ht.out; revert this; cases I <;> simp
                        obtain ⟨p, m, hp, hm, hm0, hap, hpm⟩ := inB_true (HIb.out.symm.trans hIt)
                        obtain ⟨S, hSd⟩ : ∃ S : Int, S = A + N := ⟨_, rfl⟩
                        have kS : IntKind.i64.wrap (A + N) = S := by rw [hSd, IntKind.wrap_i64]; have := hA1.out; have := hN1.out; omega
                        by_cases hjm : j < N.toNat
                        · have hlt : K < S := by rw [hSd, hK.out]; omega
                          have hd := Go.Lib.hid (show (true && decide (j < N.toNat)) = true by simp [hjm])
                          clear hjm hSd hp hm hpm hap hIt
                          as_aux_lemma =>
                            go_wp2_with fail
                            go_meet
                            exact ⟨by rw [hd.out], hS⟩
                        · have hlt : ¬ K < S := by rw [hSd, hK.out]; omega
                          have hd := Go.Lib.hid (show (true && decide (j < N.toNat)) = false by simp [hjm])
                          clear hjm hSd hp hm hpm hap hIt
                          as_aux_lemma =>
                            go_wp2_with fail
                            go_meet
                            exact ⟨by rw [hd.out], hS⟩
                    case rest =>
                      clear hS o1 o2
                      obtain ⟨rfl, hS⟩ := hcut
                      have o0 := hS.out.o0
                      have o1 := hS.out.o1
                      have o2 := hS.out.o2
                      cases hb : (t && decide (j < N.toNat)) with
                      | true =>
                        obtain ⟨rfl, hjm⟩ : t = true ∧ j < N.toNat := by revert hb; cases t <;> simp
                        have hIt : I = true := by have := ht.out; revert this; cases I <;> simp
                        obtain ⟨p, m, hp, hm, hm0, hap, hpm⟩ := inB_true (HIb.out.symm.trans hIt)
                        obtain ⟨P, hP⟩ : ∃ P : Nat, P = p + j := ⟨_, rfl⟩
                        have hKP : K = (P : Int) := by rw [hK.out, hp, hP]; omega
                        have hP130 : P < 130 := by have := hA1.out; have := hN1.out; omega
                        have hc := hS.out.z.fr.fcell P hP130
                        have hAp : A.toNat + j = P := by omega
                        obtain ⟨y, hy⟩ : ∃ y, y = G P := ⟨_, rfl⟩
                        rw [← hy] at hc
                        have HT := Go.Lib.hid (show (!y) = (I && runB G false A.toNat (j + 1)) by rw [runB_succ, hAp, ← hy, hIt]; have := ht.out; rw [hIt] at this; revert this; cases runB G false A.toNat j <;> cases y <;> simp)
                        have HJ := Go.Lib.hid (show I = true → j + 1 ≤ N.toNat from fun _ => by omega)
                        have HK := Go.Lib.hid (show K + 1 = A + ((j + 1 : Nat) : Int) by rw [hK.out]; omega)
                        have HM := Go.Lib.hid (show (N - (K + 1 - A)).toNat < (N - (K - A)).toNat by rw [hK.out]; omega)
                        subst hKP
                        clear hb ht hK hj hIt hp hm hm0 hap hpm hP hAp hy hjm
                        as_aux_lemma =>
                          go_wp2_with fail
                          go_roundw
                          case rel => exact ⟨j + 1, _, (P : Int) + 1, rfl, by go_num, HK, HT, HJ, hS⟩
                          case measure => simp only [intOf]; exact HM.out
                      | false =>
                        have T2 := Go.Lib.hid (loop_end ht.out hj.out hb)
                        clear hb ht hj hK
                        obtain ⟨t2, ht2⟩ : ∃ t2, t2 = t := ⟨_, rfl⟩
                        rw [← ht2] at T2 ⊢
                        clear ht2
                        have hN1k := hN1
                        by_cases hk0 : kd = 0
                        · have hkd : (kd == 0) = true := by simp [hk0]
                          clear hk0 T1 T2
                          go_wp2_with fail
                          go_loopw [17, 18] (fun wv kv wx => ∃ (j : Nat) (W : Int), wv = .int .i64 W ∧ kv = .int .i64 ((a + j : Nat) : Int) ∧ Hid (WantQ G a N.toNat j W) ∧ Hid (j = 0 ∧ W = -1 ∨ 1 ≤ N ∧ j + N.toNat ≤ k + 1) ∧ Hid (-1 ≤ W ∧ W ≤ 1000) ∧ Hid (SO w wx r a k g c v G G bo kd A N)) (fun _ kv _ => a + k + 1 - (intOf kv).toNat)
                          case atStart => exact ⟨0, -1, rfl, rfl, Go.Lib.hid (WantQ.zero G a _), Go.Lib.hid (.inl ⟨rfl, rfl⟩), Go.Lib.hid (by omega), hS⟩
                          case round =>
                            clear hS o0 o1 o2
                            obtain ⟨j, W, rfl, rfl, hW, hj, hWb, hS⟩ := hrel
                            have o1 := hS.out.o1
                            have o2 := hS.out.o2
                            obtain ⟨P, hP⟩ : ∃ P, P = a + j := ⟨_, rfl⟩
                            have HP := Go.Lib.hid hP
                            rw [← hP]
                            clear hP
                            go_upto_region 35 with (fail)
                            go_cut [200] (fun xv wx => xv = .bool (decide (1 ≤ N ∧ W < 0 ∧ N ≤ (k : Int) ∧ (P : Int) + N ≤ (a : Int) + k)) ∧ Hid (SO w wx r a k g c v G G bo kd A N))
                            case first =>
                              by_cases c1 : 1 ≤ N
                              · by_cases c2 : W < 0
                                · by_cases c3 : N ≤ (k : Int)
                                  · obtain ⟨F, hF⟩ : ∃ F : Int, F = E - N := ⟨_, rfl⟩
                                    have kF : IntKind.i64.wrap (E - N) = F := by rw [hF, IntKind.wrap_i64]; have := HE.out; have := hA1.out; have := hN1.out; omega
                                    by_cases c4 : (P : Int) ≤ F
                                    · have hb : decide (1 ≤ N ∧ W < 0 ∧ N ≤ (k : Int) ∧ (P : Int) + N ≤ (a : Int) + k) = true := by rw [decide_eq_true_eq]; have := HE.out; omega
                                      have HBt := Go.Lib.hid hb
                                      clear hF hb
                                      as_aux_lemma =>
                                        go_wp2_with fail
                                        go_meet
                                        exact ⟨by rw [HBt.out], hS⟩
                                    · have hb : decide (1 ≤ N ∧ W < 0 ∧ N ≤ (k : Int) ∧ (P : Int) + N ≤ (a : Int) + k) = false := by rw [decide_eq_false_iff_not]; have := HE.out; omega
                                      have HBt := Go.Lib.hid hb
                                      clear hF hb
                                      as_aux_lemma =>
                                        go_wp2_with fail
                                        go_meet
                                        exact ⟨by rw [HBt.out], hS⟩
                                  · have hb : decide (1 ≤ N ∧ W < 0 ∧ N ≤ (k : Int) ∧ (P : Int) + N ≤ (a : Int) + k) = false := by rw [decide_eq_false_iff_not]; omega
                                    have HBt := Go.Lib.hid hb
                                    clear hb
                                    as_aux_lemma =>
                                      go_wp2_with fail
                                      go_meet
                                      exact ⟨by rw [HBt.out], hS⟩
                                · have hb : decide (1 ≤ N ∧ W < 0 ∧ N ≤ (k : Int) ∧ (P : Int) + N ≤ (a : Int) + k) = false := by rw [decide_eq_false_iff_not]; omega
                                  have HBt := Go.Lib.hid hb
                                  clear hb
                                  as_aux_lemma =>
                                    go_wp2_with fail
                                    go_meet
                                    exact ⟨by rw [HBt.out], hS⟩
                              · have hb : decide (1 ≤ N ∧ W < 0 ∧ N ≤ (k : Int) ∧ (P : Int) + N ≤ (a : Int) + k) = false := by rw [decide_eq_false_iff_not]; omega
                                have HBt := Go.Lib.hid hb
                                clear hb
                                as_aux_lemma =>
                                  go_wp2_with fail
                                  go_meet
                                  exact ⟨by rw [HBt.out], hS⟩
                            case rest =>
                              clear hS o1 o2
                              obtain ⟨rfl, hS⟩ := hcut
                              have o1 := hS.out.o1
                              have o2 := hS.out.o2
                              by_cases hc : 1 ≤ N ∧ W < 0 ∧ N ≤ (k : Int) ∧ (P : Int) + N ≤ (a : Int) + k
                              · rw [decide_eq_true hc]
                                obtain ⟨m, hm⟩ : ∃ m : Nat, N = (m : Int) := ⟨N.toNat, by omega⟩
                                have HM := Go.Lib.hid (show N = (m : Int) ∧ N.toNat = m ∧ 1 ≤ m ∧ P + m ≤ a + k ∧ P + m ≤ 110 by have := hA1.out; have := hN1.out; omega)
                                have HW0 := Go.Lib.hid hc.2.1
                                obtain ⟨S, hSd⟩ : ∃ S : Int, S = (P : Int) + N := ⟨_, rfl⟩
                                have kS : IntKind.i64.wrap ((P : Int) + N) = S := by rw [hSd, IntKind.wrap_i64]; have := HM.out; omega
                                have HSd := Go.Lib.hid hSd
                                have hP1 : P ≤ 130 := by have := HM.out; omega
                                clear hc hm hSd
                                as_aux_lemma =>
                                  go_wp2_with fail
                                  go_loopw [19, 20] (fun sv kv wx => ∃ (q : Nat) (t : Bool), sv = .bool t ∧ kv = .int .i64 ((P + q : Nat) : Int) ∧ Hid (q ≤ m) ∧ Hid (t = runB G true P q) ∧ Hid (SO w wx r a k g c v G G bo kd A N)) (fun _ kv _ => P + m - (intOf kv).toNat)
                                  case atStart => exact ⟨0, true, rfl, rfl, Go.Lib.hid (by omega), Go.Lib.hid (by rw [runB_zero]), hS⟩
                                  case round =>
                                    clear hS o1 o2
                                    obtain ⟨q, t, rfl, rfl, hq, ht, hS⟩ := hrel
                                    have o2 := hS.out.o2
                                    obtain ⟨Y, hY⟩ : ∃ Y, Y = P + q := ⟨_, rfl⟩
                                    have HY := Go.Lib.hid hY
                                    rw [← hY]
                                    by_cases hqm : q < m
                                    · have hlt : (Y : Int) < S := by rw [HSd.out]; have := HM.out; omega
                                      have hY130 : Y < 130 := by have := HM.out; omega
                                      have hcl := hS.out.z.fr.fcell Y hY130
                                      obtain ⟨y, hy⟩ : ∃ y, y = G Y := ⟨_, rfl⟩
                                      rw [← hy] at hcl
                                      have HQ := Go.Lib.hid hqm
                                      cases t with
                                      | true =>
                                        have HT := Go.Lib.hid (show y = runB G true P (q + 1) by rw [runB_succ, ← ht.out, ← hY, ← hy]; cases y <;> simp)
                                        clear hy hY ht hq hqm
                                        go_wp2_with fail
                                        go_roundw
                                        case rel => exact ⟨q + 1, _, rfl, by have := HY.out; go_num, Go.Lib.hid (by have := HQ.out; omega), HT, hS⟩
                                        case measure => simp only [intOf]; have := HY.out; have := HQ.out; omega
                                      | false =>
                                        have HT := Go.Lib.hid (show false = runB G true P (q + 1) by rw [runB_succ, ← ht.out]; rfl)
                                        clear hy hY ht hq hqm
                                        go_wp2_with fail
                                        go_roundw
                                        case rel => exact ⟨q + 1, _, rfl, by have := HY.out; go_num, Go.Lib.hid (by have := HQ.out; omega), HT, hS⟩
                                        case measure => simp only [intOf]; have := HY.out; have := HQ.out; omega
                                    · have hlt : ¬ (Y : Int) < S := by rw [HSd.out]; have := HM.out; have := hq.out; omega
                                      have HT := Go.Lib.hid (show t = runB G true P m by rw [ht.out]; congr 1; have := hq.out; omega)
                                      clear hY ht hq hqm
                                      cases t with
                                      | true =>
                                        have HW2 := Go.Lib.hid (show WantQ G a N.toNat (j + 1) (P : Int) by rw [HP.out]; exact hW.out.found HW0.out (by rw [HM.out.2.1, ← HP.out]; exact fun l l1 l2 => runB_of HT.out.symm l l1 l2) (j + 1))
                                        have HJ2 := Go.Lib.hid (show j + 1 = 0 ∧ (P : Int) = -1 ∨ 1 ≤ N ∧ j + 1 + N.toNat ≤ k + 1 from .inr (by have := HM.out; have := HP.out; omega))
                                        clear hW hj HT
                                        go_wp2_with fail
                                        go_roundw
                                        case rel => exact ⟨j + 1, (P : Int), rfl, by have := HP.out; go_num, HW2, HJ2, Go.Lib.hid (by have := HM.out; omega), hS⟩
                                        case measure => simp only [intOf]; have := HP.out; have := HM.out; omega
                                      | false =>
                                        have HW2 := Go.Lib.hid (show WantQ G a N.toNat (j + 1) W from hW.out.step HW0.out (by
                                          rw [HM.out.2.1, ← HP.out]
                                          intro hall
                                          have := HT.out
                                          rw [runB_mk (fun l l1 l2 => hall l l1 l2)] at this
                                          cases this))
                                        have HJ2 := Go.Lib.hid (show j + 1 = 0 ∧ W = -1 ∨ 1 ≤ N ∧ j + 1 + N.toNat ≤ k + 1 from .inr (by have := HM.out; have := HP.out; omega))
                                        clear hW hj HT
                                        go_wp2_with fail
                                        go_roundw
                                        case rel => exact ⟨j + 1, W, rfl, by have := HP.out; go_num, HW2, HJ2, hWb, hS⟩
                                        case measure => simp only [intOf]; have := HP.out; have := HM.out; omega
                              · rw [decide_eq_false hc]
                                have hrm := hS.out.z.rm
                                have hdone : (W = -1 ∧ Hid (∀ w5, RM w5 w.heap.size r a k v G → Calls Try.prog 11 #[.pointer (some ⟨r, 0, none⟩), .int .i64 N] w5 fun e w' => e = .returned (.tuple #[.agg #[.int .i64 0, .int .i64 0], .bool false]) ∧ Below w5.heap.size w5 w')) ∨ (∃ x m : Nat, W = (x : Int) ∧ Hid (N = (m : Int) ∧ x + m ≤ 110) ∧ Hid (∀ w5, RM w5 w.heap.size r a k v G → Calls Try.prog 11 #[.pointer (some ⟨r, 0, none⟩), .int .i64 N] w5 fun e w' => e = .returned (.tuple #[.agg #[.int .i64 W, .int .i64 N], .bool true]) ∧ RM w' w.heap.size r a k v (setF G x m false) ∧ w5.grownBy w' v.ownBlock)) := by
                                  by_cases hN1 : 1 ≤ N
                                  · have hm : N = (N.toNat : Int) := by omega
                                    have hP := HP.out
                                    have hjo := hj.out
                                    rcases want_fin (n := k) (show 0 < N.toNat by omega) (fun q hq => hrm.out q (.inl hq)) (fun q hq => hrm.out q (.inr hq)) hW.out (by omega) with ⟨h1, h2⟩ | ⟨x, h1, h2, h3, h4, h5⟩
                                    · exact .inl ⟨h1, Go.Lib.hid fun w5 hr => takeno_q hr N.toNat N hm (by omega) h2⟩
                                    · exact .inr ⟨x.1, N.toNat, h2, Go.Lib.hid ⟨hm, by have := hA1.out; have := hN1k.out; omega⟩, Go.Lib.hid fun w5 hr => take_q hr N.toNat N W x _ hm h2 (by omega) h1 rfl⟩
                                  · have hjo := hj.out
                                    exact .inl ⟨by omega, Go.Lib.hid fun w5 _ => small_q w5 _ N (by omega)⟩
                                clear hc hW hj hrm
                                rcases hdone with ⟨rfl, HC⟩ | ⟨x, m, rfl, HM, HC⟩
                                · have C := Go.Lib.hid (HC.out _ hS.out.z.rm)
                                  clear HC
                                  as_aux_lemma =>
                                    go_wp2_with fail
                                    refine C.out.mono ?_
                                    rintro e w5 ⟨rfl, hb5⟩
                                    have HS5 := Go.Lib.hid (hS.out.below (below_on hb5 (below_alloc w5 (.cells #[.int .i64 0, .int .i64 0] 30))))
                                    have o2 := HS5.out.o2
                                    clear hb5 C hS o1
                                    go_wp2_with fail
                                    go_loopw [23] (fun kv wx => kv = .int .i64 0 ∧ Hid (SO w wx r a k g c v G G bo kd A N)) (fun _ _ => 0)
                                    case atStart => exact ⟨rfl, HS5⟩
                                    case round =>
                                      clear HS5 o2
                                      obtain ⟨rfl, hT⟩ := hrel
                                      have HC := Go.Lib.hid (same_c hT.out.z.rm hT.out.z.fr (by have := hA1.out; have := hN1.out; omega) (by decide))
                                      go_wp2_with fail
                                      refine HC.out.mono ?_
                                      rintro e w9 ⟨rfl, hb9⟩
                                      have HZ9 := Go.Lib.hid (hT.out.z.below hb9)
                                      clear hb9 HC hT
                                      go_wp2_with fail
                                      go_roundw
                                      case rel => exact ⟨i + 1, _, by have := HI.out; omega, by have := HI2.out; omega, by go_num, HZ9⟩
                                      case measure => simp only [intOf]; have := HI.out; omega
                                · have C := Go.Lib.hid (HC.out _ hS.out.z.rm)
                                  clear HC
                                  as_aux_lemma =>
                                    go_wp2_with fail
                                    refine C.out.mono ?_
                                    rintro e w5 ⟨rfl, hr5, hg5⟩
                                    have HS5 := Go.Lib.hid ((hS.out.call AP.out hr5 hg5).below (below_alloc w5 (.cells #[.int .i64 (x : Int), .int .i64 N] 30)))
                                    have o2 := HS5.out.o2
                                    clear hr5 hg5 C hS o1
                                    go_wp2_with fail
                                    go_loopw [23] (fun kv wx => ∃ q : Nat, q ≤ m ∧ kv = .int .i64 (q : Int) ∧ Hid (SO w wx r a k g c v (setF G x m false) (setF G x q false) bo kd A N)) (fun kv _ => m - (intOf kv).toNat)
                                    case atStart => exact ⟨0, by omega, rfl, Go.Lib.hid (by rw [setF_zero]; exact HS5.out)⟩
                                    case round =>
                                      clear HS5 o2
                                      obtain ⟨q, hq, rfl, hS⟩ := hrel
                                      have o2 := hS.out.o2
                                      by_cases hqm : q < m
                                      · have hlt : (q : Int) < N := by have := HM.out; omega
                                        obtain ⟨Y, hY⟩ : ∃ Y : Nat, Y = x + q := ⟨_, rfl⟩
                                        have kY : IntKind.i64.wrap ((x : Int) + (q : Int)) = (Y : Int) := by rw [IntKind.wrap_i64]; have := HM.out; omega
                                        have hY130 : Y < 130 := by have := HM.out; omega
                                        have hcl := hS.out.z.fr.fcell Y hY130
                                        have hf := hS.out.z.fr.fz Y
                                        obtain ⟨y, hy⟩ : ∃ y, y = setF G x q false Y := ⟨_, rfl⟩
                                        rw [← hy] at hcl
                                        have HS6 := Go.Lib.hid (hS.out.setF AP.out)
                                        rw [← hY] at HS6
                                        have HQ := Go.Lib.hid hqm
                                        have hq1 : q ≤ 130 := by have := HM.out; omega
                                        clear hy hY hS hq hqm
                                        go_wp2_with fail
                                        go_roundw
                                        case rel => exact ⟨q + 1, by have := HQ.out; omega, by go_num, HS6⟩
                                        case measure => simp only [intOf]; have := HQ.out; omega
                                      · have hlt : ¬ (q : Int) < N := by have := HM.out; omega
                                        obtain rfl : q = m := by omega
                                        have hT := hS
                                        clear hS hq hqm
                                        have HC := Go.Lib.hid (same_c hT.out.z.rm hT.out.z.fr (by have := hA1.out; have := hN1.out; omega) (by decide))
                                        go_wp2_with fail
                                        refine HC.out.mono ?_
                                        rintro e w9 ⟨rfl, hb9⟩
                                        have HZ9 := Go.Lib.hid (hT.out.z.below hb9)
                                        clear hb9 HC hT
                                        go_wp2_with fail
                                        go_roundw
                                        case rel => exact ⟨i + 1, _, by have := HI.out; omega, by have := HI2.out; omega, by go_num, HZ9⟩
                                        case measure => simp only [intOf]; have := HI.out; omega
                        · have hkd : (kd == 0) = false := by simp [hk0]
                          by_cases hk1 : kd = 1
                          · have hkd1 : (kd == 1) = true := by simp [hk1]
                            clear hk0 hk1 T2
                            cases t1 with
                            | true =>
                              have hIr : I = true ∧ runB G true A.toNat N.toNat = true := by have := T1.out; revert this; cases I <;> simp
                              obtain ⟨hIt, hrun⟩ := hIr
                              obtain ⟨p, m, hp, hm, hm0, hap, hpm⟩ := inB_true (HIb.out.symm.trans hIt)
                              rw [show A.toNat = p by omega, show N.toNat = m by omega] at hrun
                              have C := Go.Lib.hid (use_q hS.out.z.rm p m A N (setF G p m false) hp hm hm0 (fun j j1 j2 => runB_of hrun j j1 j2) rfl)
                              have HP := Go.Lib.hid (show A = (p : Int) ∧ N = (m : Int) ∧ p + m ≤ 110 by have := hA1.out; have := hN1.out; omega)
                              clear hIt hrun hp hm hm0 hap hpm
                              as_aux_lemma =>
                                go_wp2_with fail
                                refine C.out.mono ?_
                                rintro e w5 ⟨rfl, hr5, hg5⟩
                                have HS5 := Go.Lib.hid (hS.out.call AP.out hr5 hg5)
                                clear hr5 hg5 C hS o0 o1 o2
                                go_wp2_with fail
                                go_loopw [24] (fun kv wx => ∃ j : Nat, j ≤ m ∧ kv = .int .i64 (j : Int) ∧ Hid (SO w wx r a k g c v (setF G p m false) (setF G p j false) bo kd A N)) (fun kv _ => m - (intOf kv).toNat)
                                case atStart => exact ⟨0, by omega, rfl, Go.Lib.hid (by rw [setF_zero]; exact HS5.out)⟩
                                case round =>
                                  clear HS5
                                  obtain ⟨j, hj, rfl, hS⟩ := hrel
                                  have o1 := hS.out.o1
                                  have o2 := hS.out.o2
                                  by_cases hjm : j < m
                                  · have hlt : (j : Int) < N := by have := HP.out; omega
                                    obtain ⟨P, hP⟩ : ∃ P : Nat, P = p + j := ⟨_, rfl⟩
                                    have kP : IntKind.i64.wrap (A + (j : Int)) = (P : Int) := by rw [IntKind.wrap_i64]; have := HP.out; omega
                                    have hP130 : P < 130 := by have := HP.out; omega
                                    have hc := hS.out.z.fr.fcell P hP130
                                    have hf := hS.out.z.fr.fz P
                                    obtain ⟨y, hy⟩ : ∃ y, y = setF G p j false P := ⟨_, rfl⟩
                                    rw [← hy] at hc
                                    have HS6 := Go.Lib.hid (hS.out.setF AP.out)
                                    rw [← hP] at HS6
                                    have HJ := Go.Lib.hid hjm
                                    have hj1 : j ≤ 130 := by have := HP.out; omega
                                    clear hy hP hS hj hjm
                                    go_wp2_with fail
                                    go_roundw
                                    case rel => exact ⟨j + 1, by have := HJ.out; omega, by go_num, HS6⟩
                                    case measure => simp only [intOf]; have := HJ.out; omega
                                  · have hlt : ¬ (j : Int) < N := by have := HP.out; omega
                                    obtain rfl : j = m := by omega
                                    have hT := hS
                                    clear hS hj hjm
                                    have HC := Go.Lib.hid (same_c hT.out.z.rm hT.out.z.fr (by have := hA1.out; have := hN1.out; omega) (by decide))
                                    go_wp2_with fail
                                    refine HC.out.mono ?_
                                    rintro e w9 ⟨rfl, hb9⟩
                                    have HZ9 := Go.Lib.hid (hT.out.z.below hb9)
                                    clear hb9 HC hT
                                    go_wp2_with fail
                                    go_roundw
                                    case rel => exact ⟨i + 1, _, by have := HI.out; omega, by have := HI2.out; omega, by go_num, HZ9⟩
                                    case measure => simp only [intOf]; have := HI.out; omega
                            | false =>
                              have C := Go.Lib.hid (useno_q hS.out.z.rm A N (by have := BA.out; omega) (by have := BN.out; omega) (no_use (by rw [← HIb.out]; exact T1.out)))
                              as_aux_lemma =>
                                go_wp2_with fail
                                refine C.out.mono ?_
                                rintro e w5 ⟨rfl, hb5⟩
                                have HS5 := Go.Lib.hid (hS.out.below hb5)
                                clear hb5 C hS o0 o1 o2
                                go_wp2_with fail
                                go_loopw [24] (fun kv wx => kv = .int .i64 0 ∧ Hid (SO w wx r a k g c v G G bo kd A N)) (fun _ _ => 0)
                                case atStart => exact ⟨rfl, HS5⟩
                                case round =>
                                  clear HS5
                                  obtain ⟨rfl, hT⟩ := hrel
                                  have HC := Go.Lib.hid (same_c hT.out.z.rm hT.out.z.fr (by have := hA1.out; have := hN1.out; omega) (by decide))
                                  go_wp2_with fail
                                  refine HC.out.mono ?_
                                  rintro e w9 ⟨rfl, hb9⟩
                                  have HZ9 := Go.Lib.hid (hT.out.z.below hb9)
                                  clear hb9 HC hT
                                  go_wp2_with fail
                                  go_roundw
                                  case rel => exact ⟨i + 1, _, by have := HI.out; omega, by have := HI2.out; omega, by go_num, HZ9⟩
                                  case measure => simp only [intOf]; have := HI.out; omega
                          · have hkd1 : (kd == 1) = false := by simp [hk1]
                            clear hk0 hk1 T1
                            cases t2 with
                            | true =>
                              have hIr : I = true ∧ runB G false A.toNat N.toNat = true := by have := T2.out; revert this; cases I <;> simp
                              obtain ⟨hIt, hrun⟩ := hIr
                              obtain ⟨p, m, hp, hm, hm0, hap, hpm⟩ := inB_true (HIb.out.symm.trans hIt)
                              rw [show A.toNat = p by omega, show N.toNat = m by omega] at hrun
                              have C := Go.Lib.hid (give_q hS.out.z.rm p m A N (setF G p m true) hp hm hm0 (by omega) (by omega) (fun j j1 j2 => runB_of hrun j j1 j2) rfl)
                              have HP := Go.Lib.hid (show A = (p : Int) ∧ N = (m : Int) ∧ p + m ≤ 110 by have := hA1.out; have := hN1.out; omega)
                              clear hIt hrun hp hm hm0 hap hpm
                              as_aux_lemma =>
                                go_wp2_with fail
                                refine C.out.mono ?_
                                rintro e w5 ⟨rfl, hr5, hg5⟩
                                have HS5 := Go.Lib.hid (hS.out.call AP.out hr5 hg5)
                                clear hr5 hg5 C hS o0 o1 o2
                                go_wp2_with fail
                                go_loopw [25] (fun kv wx => ∃ j : Nat, j ≤ m ∧ kv = .int .i64 (j : Int) ∧ Hid (SO w wx r a k g c v (setF G p m true) (setF G p j true) bo kd A N)) (fun kv _ => m - (intOf kv).toNat)
                                case atStart => exact ⟨0, by omega, rfl, Go.Lib.hid (by rw [setF_zero]; exact HS5.out)⟩
                                case round =>
                                  clear HS5
                                  obtain ⟨j, hj, rfl, hS⟩ := hrel
                                  have o1 := hS.out.o1
                                  have o2 := hS.out.o2
                                  by_cases hjm : j < m
                                  · have hlt : (j : Int) < N := by have := HP.out; omega
                                    obtain ⟨P, hP⟩ : ∃ P : Nat, P = p + j := ⟨_, rfl⟩
                                    have kP : IntKind.i64.wrap (A + (j : Int)) = (P : Int) := by rw [IntKind.wrap_i64]; have := HP.out; omega
                                    have hP130 : P < 130 := by have := HP.out; omega
                                    have hc := hS.out.z.fr.fcell P hP130
                                    have hf := hS.out.z.fr.fz P
                                    obtain ⟨y, hy⟩ : ∃ y, y = setF G p j true P := ⟨_, rfl⟩
                                    rw [← hy] at hc
                                    have HS6 := Go.Lib.hid (hS.out.setF AP.out)
                                    rw [← hP] at HS6
                                    have HJ := Go.Lib.hid hjm
                                    have hj1 : j ≤ 130 := by have := HP.out; omega
                                    clear hy hP hS hj hjm
                                    go_wp2_with fail
                                    go_roundw
                                    case rel => exact ⟨j + 1, by have := HJ.out; omega, by go_num, HS6⟩
                                    case measure => simp only [intOf]; have := HJ.out; omega
                                  · have hlt : ¬ (j : Int) < N := by have := HP.out; omega
                                    obtain rfl : j = m := by omega
                                    have hT := hS
                                    clear hS hj hjm
                                    have HC := Go.Lib.hid (same_c hT.out.z.rm hT.out.z.fr (by have := hA1.out; have := hN1.out; omega) (by decide))
                                    go_wp2_with fail
                                    refine HC.out.mono ?_
                                    rintro e w9 ⟨rfl, hb9⟩
                                    have HZ9 := Go.Lib.hid (hT.out.z.below hb9)
                                    clear hb9 HC hT
                                    go_wp2_with fail
                                    go_roundw
                                    case rel => exact ⟨i + 1, _, by have := HI.out; omega, by have := HI2.out; omega, by go_num, HZ9⟩
                                    case measure => simp only [intOf]; have := HI.out; omega
                            | false =>
                              have C := Go.Lib.hid (giveno_q hS.out.z.rm A N (by have := BA.out; omega) (by have := BN.out; omega) (no_give (by rw [← HIb.out]; exact T2.out)))
                              as_aux_lemma =>
                                go_wp2_with fail
                                refine C.out.mono ?_
                                rintro e w5 ⟨rfl, hb5⟩
                                have HS5 := Go.Lib.hid (hS.out.below hb5)
                                clear hb5 C hS o0 o1 o2
                                go_wp2_with fail
                                go_loopw [25] (fun kv wx => kv = .int .i64 0 ∧ Hid (SO w wx r a k g c v G G bo kd A N)) (fun _ _ => 0)
                                case atStart => exact ⟨rfl, HS5⟩
                                case round =>
                                  clear HS5
                                  obtain ⟨rfl, hT⟩ := hrel
                                  have HC := Go.Lib.hid (same_c hT.out.z.rm hT.out.z.fr (by have := hA1.out; have := hN1.out; omega) (by decide))
                                  go_wp2_with fail
                                  refine HC.out.mono ?_
                                  rintro e w9 ⟨rfl, hb9⟩
                                  have HZ9 := Go.Lib.hid (hT.out.z.below hb9)
                                  clear hb9 HC hT
                                  go_wp2_with fail
                                  go_roundw
                                  case rel => exact ⟨i + 1, _, by have := HI.out; omega, by have := HI2.out; omega, by go_num, HZ9⟩
                                  case measure => simp only [intOf]; have := HI.out; omega
        · have hnin : ¬ ((i : Int) < (len2 : Int) ∧ (i : Int) < 60) := by omega
          have HB := Go.Lib.hid hZ.out.bel
          by_cases hi2 : (i : Int) < (len2 : Int)
          · have hi : ¬ (i : Int) < 60 := fun h => hnin ⟨hi2, h⟩
            clear hnin hin
            as_aux_lemma =>
              go_wp2_with fail
              go_ret
              exact ⟨rfl, HB.out⟩
          · clear hnin hin
            as_aux_lemma =>
              go_wp2_with fail
              go_ret
              exact ⟨rfl, HB.out⟩

/-! ### THE ROW -/
set_option maxRecDepth 100000 in
theorem lifted (os : Os) (started : os.Started) (H : Type) (enc : TypeId × Value → H) :
    ReturnsInHanded {} Try.checked os 3 .any (Rows.extentAllSpec.pre6 enc Try.prog Try.f3 Rows.extentAllRow.domain false) (Rows.extentAllSpec.post enc Try.prog Try.f3 false true false false) := by
  refine returnsInHanded_of_change (C := Try.checked) own started (by kernel_rfl) Try.func3
    (ChangeSpec.witness6 (enc := enc) (C := Try.checked) false ⟨#[], #[.int .i64 0, .int .i64 0, .slice none 0 0], []⟩ 8 (by kernel_rfl) (by kernel_rfl) (by kernel_rfl) (by kernel_rfl)) ?_
  intro W base args ds gs before hval0 hW hcnd _
  have hval : ∀ (j : Nat) t v, Try.f3.params[j]? = some t → args[j]? = some v → Value.okWide Try.prog W .any base t v := hval0
  have hW' := hW
  obtain ⟨p, q, hA0, hV, rfl, hfz, hnd⟩ := hW
  have hA : DataW.TrodAll enc Try.prog W 0 (fun _ => true) true Try.f3.params.toList args.toList ds p := hA0
  rw [Try.params3] at hA hval
  obtain ⟨v0, vs0, d0, ds0, p0, q0, hargs, rfl, rfl, h0, r0⟩ := trodAll_cons hA
  obtain ⟨v1, vs1, d1, ds1, p1, q1, rfl, rfl, rfl, h1, r1⟩ := trodAll_cons r0
  obtain ⟨v2, vs2, d2, ds2, p2, q2, rfl, rfl, rfl, h2, r2⟩ := trodAll_cons r1
  obtain ⟨rfl, rfl, rfl⟩ := trodAll_nil r2
  obtain rfl : args = #[v0, v1, v2] := by cases args; simp_all
  obtain ⟨rfl, rfl⟩ := trodVars_none hV
  have kk0 := h0
  have lt0 : ∀ x ∈ p0, x.block < W.heap.size := by obtain ⟨m, hm⟩ := kk0; exact DataW.trod_lt m _ _ _ hm
  have kk1 := h1
  have lt1 : ∀ x ∈ p1, x.block < W.heap.size := by obtain ⟨m, hm⟩ := kk1; exact DataW.trod_lt m _ _ _ hm
  have kk2 := h2
  have lt2 : ∀ x ∈ p2, x.block < W.heap.size := by obtain ⟨m, hm⟩ := kk2; exact DataW.trod_lt m _ _ _ hm
  obtain ⟨a0, rfl, rfl, rfl, w0⟩ := open_int Try.underlying3 (hval 0 3 v0 rfl rfl) h0
  obtain ⟨a1, rfl, rfl, rfl, w1⟩ := open_int Try.underlying3 (hval 1 3 v1 rfl rfl) h1
  obtain ⟨a2, len2, cap2, rfl⟩ := okWide_slice Try.underlying22 (hval 2 22 v2 rfl rfl)
  obtain ⟨l2, w2⟩ := open_opes h2
  clear hA0 hval0
  refine (walk W a0 w0 a1 w1 a2 len2 cap2 l2 w2).mono fun e W' ⟨he, bel⟩ => ?_
  subst he
  exact ⟨_, rfl, _, _, _, [], _, [], hW', trodAll_mk1 (shut_bool Try.underlying4 _), (trodAll_cons_mk (Below.trod laidOut (by kernel_rfl) (of_decide_eq_true (by kernel_rfl)) kk0 bel lt0) (trodAll_cons_mk (Below.trod laidOut (by kernel_rfl) (of_decide_eq_true (by kernel_rfl)) kk1 bel lt1) (trodAll_cons_mk (Below.trod laidOut (by kernel_rfl) (of_decide_eq_true (by kernel_rfl)) kk2 bel lt2) trodAll_mk0))), rfl, bel.frame _, fun h => by cases h⟩

theorem over : Rows.extentAllRow.holds Try.pinned (OpenSpec.ofChange Rows.extentAllSpec) :=
  OpenClaim.holds_of_wide 3 Try.f3 rfl rfl rfl rfl rfl rfl rfl ⟨rfl, rfl, rfl, rfl, rfl⟩ rfl rfl rfl rfl rfl (by kernel_rfl) Try.func3 (by kernel_rfl)
    (of_decide_eq_true (by kernel_rfl)) (by unfold Func.isWrapper; first | (rw [if_pos (by decide +kernel)]; kernel_rfl) | (rw [if_neg (by decide +kernel)]; exact ⟨rfl, rfl⟩))
    (fun os started H enc _ => lifted os started H enc)

theorem proved : Rows.ExtentAllSaid := over
#print axioms proved
end Go.Proofs.Ytheljojjpnpdaaa.extentAll
