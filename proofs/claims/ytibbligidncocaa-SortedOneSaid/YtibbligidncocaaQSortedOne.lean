/- SortedOne: a pair more, in its place, is found; all others stay: for every input the law returns true. -/
import Derived.Test.YtibbligidncocaaRows
import Derived.WalkKit
import Derived.ProofKit
import Derived.OpenShut
import Derived.ShutString
import Derived.ChangeOld
import Derived.Below
import Derived.Test.YtibbligidncocaaM08
import Derived.Test.YtibbligidncocaaM51
import Derived.Test.YtibbligidncocaaM15
import Derived.Test.YtibbligidncocaaM17
import Derived.Deep.DeepCutAuto
namespace Go.Proofs.Ytibbligidncocaa.sortedOne
open Go.ChangeShapes Go.WideShapes Go.ChangeAt Go.RowKit
open Go.ChangeMaps (open_string shut_string)
set_option linter.unusedVariables false

theorem own : ownKnob Try.prog.godebug = none := by kernel_rfl
theorem laidOut : laidOutB Try.prog = true := by kernel_rfl

theorem sliced_zero (a : Option Addr) (n c s : Nat) : sliced a 0 n c s = .slice a n c := by
  unfold sliced
  have e : a.map (fun p : Addr => p.add (0 * s)) = a := by
    cases a with
    | none => rfl
    | some p => simp only [Option.map_some, Nat.zero_mul]; congr 1
  rw [e]
  split <;> rfl
def VOA (b os m cq k g3 g13 g15 : Nat) (ky kr sx : ByteArray) (ax nx : Int) : Nat → World → Value → Prop
  | 89, _, v => v = .bool true
  | 90, _, v => v = .bool false
  | 91, _, v => v = .bool false
  | 92, _, v => v = .bool false
  | 93, _, v => v = .bool true
  | 94, _, v => v = .bool true
  | 95, _, v => v = .slice (some ⟨b, os, none⟩) m cq
  | 96, _, v => v = .int .i64 (k : Int)
  | 97, _, v => v = .pointer (some ⟨b, os + k * 4, none⟩)
  | 98, _, v => v = .pointer (some ⟨b, os + k * 4, none⟩)
  | 99, _, v => v = .string ky
  | 100, _, v => v = .pointer (some ⟨g3, 0, none⟩)
  | 101, _, v => v = .string kr
  | 102, _, v => v = .bool false
  | 103, _, v => v = .bool false
  | 104, _, v => v = .bool false
  | 105, _, v => v = .bool false
  | 106, _, v => v = .bool false
  | 107, _, v => v = .bool false
  | 108, _, v => v = undef
  | 109, _, v => v = undef
  | 110, _, v => v = undef
  | 111, _, v => v = undef
  | 112, _, v => v = undef
  | 113, _, v => v = undef
  | 114, _, v => v = undef
  | 115, _, v => v = undef
  | 116, _, v => v = .bool false
  | 117, _, v => v = .bool false
  | 118, _, v => v = undef
  | 119, _, v => v = undef
  | 120, _, v => v = undef
  | 121, _, v => v = undef
  | 122, _, v => v = undef
  | 123, _, v => v = undef
  | 124, _, v => v = undef
  | 125, _, v => v = undef
  | 126, _, v => v = undef
  | 127, _, v => v = undef
  | 128, _, v => v = undef
  | 129, _, v => v = undef
  | 130, _, v => v = undef
  | 131, _, v => v = undef
  | 132, _, v => v = undef
  | 133, _, v => v = undef
  | 134, _, v => v = undef
  | 135, _, v => v = undef
  | 136, _, v => v = undef
  | 137, _, v => v = .bool false
  | 138, _, v => v = .bool false
  | _, _, _ => True

theorem VOA_below (b os m cq k g3 g13 g15 : Nat) (ky kr sx : ByteArray) (ax nx : Int) : ∀ (i : Nat) (w w' : World) (v : Value), VOA b os m cq k g3 g13 g15 ky kr sx ax nx i w v → Below w.heap.size w w' → VOA b os m cq k g3 g13 g15 ky kr sx ax nx i w' v := by
  intro i w w' v h hb
  unfold VOA at h ⊢
  split at h <;> first | exact h | trivial | exact h

def VOB (b os m cq k g3 g13 g15 : Nat) (ky kr sx : ByteArray) (ax nx : Int) : Nat → World → Value → Prop
  | 89, _, v => v = .bool true
  | 90, _, v => v = .bool false
  | 91, _, v => v = .bool false
  | 92, _, v => v = .bool true
  | 93, _, v => v = .bool false
  | 94, _, v => v = .bool false
  | 95, _, v => v = undef
  | 96, _, v => v = undef
  | 97, _, v => v = undef
  | 98, _, v => v = undef
  | 99, _, v => v = undef
  | 100, _, v => v = undef
  | 101, _, v => v = undef
  | 102, _, v => v = undef
  | 103, _, v => v = .bool false
  | 104, _, v => v = .bool false
  | 105, _, v => v = .bool false
  | 106, _, v => v = .bool true
  | 107, _, v => v = .bool true
  | 108, _, v => v = .slice (some ⟨b, os, none⟩) m cq
  | 109, _, v => v = .int .i64 (k : Int)
  | 110, _, v => v = .pointer (some ⟨b, os + k * 4, none⟩)
  | 111, _, v => v = .pointer (some ⟨b, os + k * 4, none⟩)
  | 112, _, v => v = .string ky
  | 113, _, v => v = .pointer (some ⟨g3, 0, none⟩)
  | 114, _, v => v = .string kr
  | 115, _, v => v = .bool false
  | 116, _, v => v = .bool false
  | 117, _, v => v = .bool false
  | 118, _, v => v = undef
  | 119, _, v => v = undef
  | 120, _, v => v = undef
  | 121, _, v => v = undef
  | 122, _, v => v = undef
  | 123, _, v => v = undef
  | 124, _, v => v = undef
  | 125, _, v => v = undef
  | 126, _, v => v = undef
  | 127, _, v => v = undef
  | 128, _, v => v = undef
  | 129, _, v => v = undef
  | 130, _, v => v = undef
  | 131, _, v => v = undef
  | 132, _, v => v = undef
  | 133, _, v => v = undef
  | 134, _, v => v = undef
  | 135, _, v => v = undef
  | 136, _, v => v = undef
  | 137, _, v => v = .bool false
  | 138, _, v => v = .bool false
  | _, _, _ => True

theorem VOB_below (b os m cq k g3 g13 g15 : Nat) (ky kr sx : ByteArray) (ax nx : Int) : ∀ (i : Nat) (w w' : World) (v : Value), VOB b os m cq k g3 g13 g15 ky kr sx ax nx i w v → Below w.heap.size w w' → VOB b os m cq k g3 g13 g15 ky kr sx ax nx i w' v := by
  intro i w w' v h hb
  unfold VOB at h ⊢
  split at h <;> first | exact h | trivial | exact h

def VOC (b os m cq k g3 g13 g15 : Nat) (ky kr sx : ByteArray) (ax nx : Int) : Nat → World → Value → Prop
  | 89, _, v => v = .bool true
  | 90, _, v => v = .bool false
  | 91, _, v => v = .bool false
  | 92, _, v => v = .bool true
  | 93, _, v => v = .bool false
  | 94, _, v => v = .bool false
  | 95, _, v => v = undef
  | 96, _, v => v = undef
  | 97, _, v => v = undef
  | 98, _, v => v = undef
  | 99, _, v => v = undef
  | 100, _, v => v = undef
  | 101, _, v => v = undef
  | 102, _, v => v = undef
  | 103, _, v => v = .bool false
  | 104, _, v => v = .bool false
  | 105, _, v => v = .bool false
  | 106, _, v => v = .bool true
  | 107, _, v => v = .bool true
  | 108, _, v => v = .slice (some ⟨b, os, none⟩) m cq
  | 109, _, v => v = .int .i64 (k : Int)
  | 110, _, v => v = .pointer (some ⟨b, os + k * 4, none⟩)
  | 111, _, v => v = .pointer (some ⟨b, os + k * 4, none⟩)
  | 112, _, v => v = .string ky
  | 113, _, v => v = .pointer (some ⟨g3, 0, none⟩)
  | 114, _, v => v = .string kr
  | 115, _, v => v = .bool true
  | 116, _, v => v = .bool true
  | 117, _, v => v = .bool true
  | 118, _, v => v = .pointer (some ⟨g15, 0, none⟩)
  | 119, _, v => v = .int .i64 ax
  | 120, _, v => v = .pointer (some ⟨g13, 0, none⟩)
  | 121, _, v => v = .int .i64 ax
  | 122, _, v => v = .bool false
  | 123, _, v => v = .bool false
  | 124, _, v => v = .pointer (some ⟨g15, 1, none⟩)
  | 125, _, v => v = .int .i64 nx
  | 126, _, v => v = .pointer (some ⟨g13, 1, none⟩)
  | 127, _, v => v = .int .i64 nx
  | 128, _, v => v = .bool false
  | 129, _, v => v = .bool false
  | 130, _, v => v = .bool false
  | 131, _, v => v = .pointer (some ⟨g15, 2, none⟩)
  | 132, _, v => v = .string sx
  | 133, _, v => v = .pointer (some ⟨g13, 2, none⟩)
  | 134, _, v => v = .string sx
  | 135, _, v => v = .bool false
  | 136, _, v => v = .bool false
  | 137, _, v => v = .bool false
  | 138, _, v => v = .bool false
  | _, _, _ => True

theorem VOC_below (b os m cq k g3 g13 g15 : Nat) (ky kr sx : ByteArray) (ax nx : Int) : ∀ (i : Nat) (w w' : World) (v : Value), VOC b os m cq k g3 g13 g15 ky kr sx ax nx i w v → Below w.heap.size w w' → VOC b os m cq k g3 g13 g15 ky kr sx ax nx i w' v := by
  intro i w w' v h hb
  unfold VOC at h ⊢
  split at h <;> first | exact h | trivial | exact h

set_option maxHeartbeats 8000000 in
set_option maxRecDepth 100000 in
theorem walk (w : World) (a0 : Option Addr) (len0 cap0 : Nat) (l0 : List RecT) (w0 : RRec w (.slice a0 len0 cap0) l0) (y1 : ByteArray) (g1 : Bool) (k1 n1 : Int) (s1 : ByteArray) (w1 : RecOk (y1, g1, k1, n1, s1)) :
    Calls Try.prog 8 #[.slice a0 len0 cap0, recV y1 g1 k1 n1 s1] w fun e w' => e = .returned (.bool true) ∧ Below w.heap.size w w' := by
  have hL := w0.rs
  have hok := w0.ok
  obtain ⟨hl1, hl2, hl3⟩ := hL.len
  subst hl1
  have hbX := below_one w (.cells #[.string y1, .bool g1, .int .i64 k1, .int .i64 n1, .string s1] 39)
  have HL := Go.Lib.hid (hL.below hbX)
  have HB0 := Go.Lib.hid hbX
  have HOK := Go.Lib.hid hok
  have HRK := Go.Lib.hid w1
  have HX3 := Go.Lib.hid (heap_alloc_new w (.cells #[.string y1, .bool g1, .int .i64 k1, .int .i64 n1, .string s1] 39))
  clear w0 w1 hL hok hbX
  unfold recV
  go_enter Try.func8, Try.ntmps8
  go_upto_region 1 with (fail)
  obtain ⟨g3, hg3⟩ : ∃ g, g = w.heap.size := ⟨_, rfl⟩
  rw [← hg3] at HX3 ⊢
  have HG3 := Go.Lib.hid hg3
  clear hg3
  generalize w.alloc (.cells #[.string y1, .bool g1, .int .i64 k1, .int .i64 n1, .string s1] 39) = wb at *
  go_upto_if 22 with (refine (begun22_c _).mono ?_; rintro e w1 ⟨rfl, hbb⟩)
  go_cut [0] (fun s wx => wx = w1 ∧ ∃ S : List RecT, S.length ≤ 25 ∧ RS wx s S ∧ Hid (∀ y ∈ S, RecOk y))
  case first =>
    by_cases h25 : 25 < l0.length
    · obtain ⟨v5, hv5, hrun⟩ := (HL.out.below hbb).run_h 25 (by omega) .i64
      have hR := Go.Lib.hid (hv5 _ (HL.out.below hbb))
      have hlt := Go.Lib.hid (show (l0.take 25).length ≤ 25 by rw [List.length_take]; omega)
      have hB2 : Hid (∀ y ∈ l0.take 25, RecOk y) := Go.Lib.hid fun y hy => HOK.out y (List.mem_of_mem_take hy)
      have Hsl : Hid (∀ W, (Instr.slice 22 (.slice a0 l0.length cap0) none (some (.int .i64 25)) none).run Try.prog W = .ok v5 W) := Go.Lib.hid hrun
      clear hv5 hrun
      go_wp2_with (first
        | (with_reducible show wpList _ _ _ (⟨some 24, _, _, _, _, _⟩ :: _) _ _; go_must (refine wpList_cut_h rfl (.tmp 23) (.const (.int .i64 25)) 22 rfl (by kernel_rfl) a0 l0.length cap0 (.int .i64 25) v5 rfl rfl Hsl.out ?_))
        | fail)
      go_meet
      exact ⟨rfl, _, hlt.out, hR.out, hB2⟩
    · have hR := Go.Lib.hid (HL.out.below hbb)
      go_wp2_with fail
      go_meet
      exact ⟨rfl, l0, by omega, hR.out, HOK⟩
  case rest =>
    obtain ⟨rfl, S, hS25, hS, HS⟩ := hcut
    have HX3 := Go.Lib.hid (row_kept HX3.out hbb)
    have HBB := Go.Lib.hid (HB0.out.trans (hbb.mono HB0.out.size))
    clear HL HOK hl2 hl3 hbb HB0
    obtain ⟨ad, cap, rfl, -⟩ := hS.form
    have CP := Go.Lib.hid (spairs_c _ S wc (rrec_of1 hS HS.out))
    have HR := Go.Lib.hid hS
    clear hS
    go_wp2_with fail
    refine CP.out.mono ?_
    rintro e w2 ⟨vP, P, rfl, hp, ho, hc⟩
    have HP := Go.Lib.hid hp
    have HOP := Go.Lib.hid ho.r
    have HX3 := Go.Lib.hid (row_kept HX3.out hc)
    have HBB := Go.Lib.hid (HBB.out.trans (hc.mono HBB.out.size))
    have HR := Go.Lib.hid (HR.out.below hc)
    clear hp ho hc CP
    obtain ⟨x0, x1, x2, x3, x4⟩ := row5 HX3.out
    have hbA := below_one w2 (.cells #[.string y1, .bool g1, .int .i64 k1, .int .i64 n1, .string s1] 39)
    have HBA := Go.Lib.hid hbA
    have HON := Go.Lib.hid (ownrec_one w2 y1 g1 k1 n1 s1)
    have HRA := Go.Lib.hid (HR.out.below hbA)
    have HLN := Go.Lib.hid (show [((y1, g1, k1, n1, s1) : RecT)].length + S.length ≤ 1000000 by simp; omega)
    clear hbA HR
    have CQ := Go.Lib.hid fun (v : Value) (W : World) (h : OwnRec W w2.heap.size v ([((y1, g1, k1, n1, s1) : RecT)] ++ S)) => spairs_c v ((y1, g1, k1, n1, s1) :: S) W (rrec_of1 h.rs fun y hy => by
      rcases List.mem_cons.1 hy with rfl | hy
      · exact HRK.out
      · exact HS.out y hy)
    go_wp2_with (first
      | (with_reducible show wpList _ _ _ (⟨some 30, _, _, _, _, _⟩ :: _) _ _; go_loud (refine wpList_append_recs rfl (.tmp 28) (.tmp 29) rfl w2.heap.size (.slice (some ⟨w2.heap.size, 0, none⟩) 1 1) (.slice ad S.length cap) [(y1, g1, k1, n1, s1)] S rfl rfl HON.out HRA.out HLN.out HBA.out.size ?_); intro v3 w3 ho3 hg3)
      | fail)
    have hb3 := HBA.out.grown hg3 HBA.out.size HON.out.row
    refine (CQ.out v3 w3 ho3).mono ?_
    rintro e w4 ⟨vQ, Q, rfl, hq, hoq, hc⟩
    have hc4 := hb3.trans (hc.mono hb3.size)
    have HQ := Go.Lib.hid hq
    have HOQ := Go.Lib.hid hoq.r
    have HOP := Go.Lib.hid (HOP.out.below hc4)
    have HX3 := Go.Lib.hid (row_kept HX3.out hc4)
    have HBB := Go.Lib.hid (HBB.out.trans (hc4.mono HBB.out.size))
    have HONE := Go.Lib.hid (one_pairs hS25 HP.out hq)
    clear hb3 hg3 ho3 hq hoq hc hc4 CQ HON HRA HLN HBA HS HRK x0 x1 x2 x3 x4
    have CN := Go.Lib.hid (snew_ok HP.out.may vP w4 HOP.out)
    have hmP := mayP_len HP.out.may
    have hmQ := mayP_len HQ.out.may
    obtain ⟨ap, cp, rfl, -⟩ := HOP.out.form
    obtain ⟨aq, cq, rfl, -⟩ := HOQ.out.form
    have HLEN := Go.Lib.hid HONE.out.1
    have HMEM := Go.Lib.hid HONE.out.2
    have HQR := Go.Lib.hid (show ∀ W, Below w4.heap.size w4 W → K4.R W (.slice aq Q.length cq) Q from fun W hb => HOQ.out.below hb)
    clear HONE HOP
    go_wp2_with fail
    refine CN.out.mono ?_
    rintro e w5 ⟨p, rfl, hw, hc⟩
    have HWP := Go.Lib.hid hw
    have HC := Go.Lib.hid hc
    have HX3 := Go.Lib.hid (row_kept HX3.out hc)
    have CN := Go.Lib.hid (snew_ok HQ.out.may _ w5 (HOQ.out.below hc))
    clear hw hc HOQ
    go_wp2_with fail
    refine CN.out.mono ?_
    rintro e w6 ⟨p2, rfl, hw, hc⟩
    have HWQ := Go.Lib.hid hw
    have HWP := Go.Lib.hid (HWP.out.below hc)
    have HC := Go.Lib.hid (HC.out.trans (hc.mono HC.out.size))
    have HX3 := Go.Lib.hid (row_kept HX3.out hc)
    clear hw hc CN
    obtain ⟨m, hm⟩ : ∃ m, m = Q.length := ⟨_, rfl⟩
    obtain ⟨n, hn⟩ : ∃ n, n = P.length := ⟨_, rfl⟩
    have HM := Go.Lib.hid hm
    rw [← hm, ← hn] at HLEN
    rw [← hm] at HQR hmQ ⊢
    rw [← hn] at hmP ⊢
    clear hm hn
    go_upto_region 10 with (fail)
    go_cut [62] (fun c wx => wx = w6 ∧ c = .bool false)
    case first =>
      rcases HLEN.out with h | h
      · have hI1 : ((m : Int) != (n : Int)) = false := by simp [h]
        have hI2 : (m : Int) = (n : Int) := by omega
        subst h
        go_wp2_with fail
        go_meet
        exact ⟨rfl, rfl⟩
      · have hI1 : ((m : Int) != (n : Int)) = true := by simp; omega
        have hI2 : ((m : Int) != (n : Int) + 1) = false := by simp; omega
        clear HLEN h
        go_wp2_with fail
        go_meet
        exact ⟨rfl, rfl⟩
    case rest =>
      obtain ⟨rfl, rfl⟩ := hcut
      have CGQ := Go.Lib.hid fun W k (hb : Below wc.heap.size wc W) hk => sget_c (HWQ.out.below hb) k hk
      have CGP := Go.Lib.hid fun W k (hb : Below wc.heap.size wc W) hk => sget_c (HWP.out.below hb) k hk
      have HFQ := Go.Lib.hid fun x (hx : x ∈ Q) => mayP_find HQ.out.may hx
      have HFP := Go.Lib.hid fun x (hx : x ∈ P) => mayP_find HP.out.may hx
      have HSZ := Go.Lib.hid (mayP_sizes HQ.out.may)
      clear HLEN HWQ HWP HP HQ
      go_wp2_with fail
      go_loopw [12] (fun ki wr => ∃ (k : Nat), k ≤ m ∧ ki = .int .i64 (k : Int) ∧ Hid (Below wc.heap.size wc wr)) (fun ki _ => m - (intOf ki).toNat)
      case atStart => exact ⟨0, by omega, rfl, Go.Lib.hid (Below.refl _ _)⟩
      case round =>
        obtain ⟨k, hk, rfl, HW⟩ := hrel
        by_cases hlt : k < m
        · have hltI : (k : Int) < (m : Int) := by omega
          have hkQ : k < Q.length := by rw [← HM.out]; exact hlt
          obtain ⟨b, os, rfl, -, hbl, c0, -⟩ := K4.at' (HQR.out _ (HC.out.trans (HW.out.mono HC.out.size))) k hkQ
          have hix := idx4 b os m cq k hlt
          have hmem := HMEM.out _ (List.getElem_mem hkQ)
          have hsz := HSZ.out _ (List.getElem_mem hkQ)
          have HFX := Go.Lib.hid (HFQ.out _ (List.getElem_mem hkQ))
          generalize Q[k] = x at *
          obtain ⟨ky, gx, ax, nx, sx⟩ := x
          simp only [] at c0 hmem hsz HFX
          have HKS := Go.Lib.hid (show ky.size ≤ 1000000 by omega)
          have CGX := CGQ.out _ ky HW.out HKS.out
          rw [HFX.out] at CGX
          unfold outV at CGX
          simp only [] at CGX
          have CGX := Go.Lib.hid CGX
          have HMX := Go.Lib.hid hmem
          clear hsz hkQ HFX hmem
          go_wp2_with fail
          refine CGX.out.mono ?_
          rintro e wv ⟨rfl, hc⟩
          have hbA := below_one wv (.cells #[.int .i64 ax, .int .i64 nx, .string sx] 37)
          have HXV := Go.Lib.hid (heap_alloc_new wv (.cells #[.int .i64 ax, .int .i64 nx, .string sx] 37))
          have hcA := hc.trans (hbA.mono hc.size)
          have HWV := Go.Lib.hid (HW.out.trans (hcA.mono HW.out.size))
          have c0 := cell_kept c0 hcA
          have hbl := Nat.lt_of_lt_of_le hbl hcA.size
          clear hc hbA hcA CGX HW
          go_upto_region 16 with (fail)
          obtain ⟨g13, hg13⟩ : ∃ g, g = wv.heap.size := ⟨_, rfl⟩
          rw [← hg13] at HXV ⊢
          clear hg13
          generalize wv.alloc (.cells #[.int .i64 ax, .int .i64 nx, .string sx] 37) = wv1 at *
          by_cases hkk : ky.toList = y1.toList
          · have hkk := Go.Lib.hid hkk
            obtain ⟨aw, nw, sw, bw, hov⟩ := outV_form (findK keyR P ky.toList)
            have CGX := CGP.out _ ky HWV.out HKS.out
            rw [hov] at CGX
            have CGX := Go.Lib.hid CGX
            clear hov HMX
            go_wp2_with fail
            refine CGX.out.mono ?_
            rintro e ww ⟨rfl, hc⟩
            have hbA := below_one ww (.cells #[.int .i64 aw, .int .i64 nw, .string sw] 37)
            have hcA := hc.trans (hbA.mono hc.size)
            have HWW := Go.Lib.hid (HWV.out.trans (hcA.mono HWV.out.size))
            have HX3 := Go.Lib.hid (row_kept HX3.out HWW.out)
            have c0 := cell_kept c0 hcA
            clear hc hbA hcA CGX HWV HXV
            go_upto_region 17 with (fail)
            obtain ⟨g15, hg15⟩ : ∃ g, g = ww.heap.size := ⟨_, rfl⟩
            rw [← hg15]
            clear hg15
            generalize ww.alloc (.cells #[.int .i64 aw, .int .i64 nw, .string sw] 37) = ww1 at *
            have HKY := Go.Lib.hid (show ∀ W, Below ww1.heap.size ww1 W → W.cell? ⟨b, os + k * 4, none⟩ = some (.string ky) from fun W hb => cell_kept c0 hb)
            clear c0 hbl
            cases bw with
            | false =>
              refine wp_region_each (by kernel_rfl) (VOA b os m cq k g3 g13 g15 ky y1 sx ax nx) (VOA_below b os m cq k g3 g13 g15 ky y1 sx ax nx) (by decide +kernel) (by decide +kernel) (by rfl) [89, 90, 91, 92, 93, 94, 95, 96, 97, 98, 99, 100, 101, 102, 103, 104, 105, 106, 107, 108, 109, 110, 111, 112, 113, 114, 115, 116, 117, 118, 119, 120, 121, 122, 123, 124, 125, 126, 127, 128, 129, 130, 131, 132, 133, 134, 135, 136, 137, 138] (by rfl) ?_ ?_
              · intro i o ho a w6 hb6 hlen hg
                have d0 := HKY.out w6 hb6
                obtain ⟨x0, -, -, -, -⟩ := row5 (row_kept HX3.out hb6)
                match i, ho with
                | 0, ho =>
                  obtain rfl := Option.some.inj ho
                  have h14 := given_old hg 14 (by decide +kernel)
                  clear hg
                  exact st_yield ho (wanted_none rfl) (.bool true) w6 (by simp [execOp, Act.eval, h14, go_sem]) ⟨_, rfl, Below.refl _ _, by rintro t' ⟨⟩; rfl⟩
                | 1, ho =>
                  obtain rfl := Option.some.inj ho
                  obtain ⟨_, h89, rfl⟩ := given_fed hg 89 (by decide +kernel)
                  clear hg
                  exact st_yield ho (wanted_none rfl) (.bool false) w6 (by simp [execOp, Act.eval, h89, go_sem]) ⟨_, rfl, Below.refl _ _, by rintro t' ⟨⟩; rfl⟩
                | 2, ho =>
                  obtain rfl := Option.some.inj ho
                  obtain ⟨_, h90, rfl⟩ := given_fed hg 90 (by decide +kernel)
                  clear hg
                  exact st_yield ho (wanted_none rfl) (.bool false) w6 (by simp [execOp, Act.eval, h90, go_sem]) ⟨_, rfl, Below.refl _ _, by rintro t' ⟨⟩; rfl⟩
                | 3, ho =>
                  obtain rfl := Option.some.inj ho
                  have h16 := given_old hg 16 (by decide +kernel)
                  obtain ⟨_, h91, rfl⟩ := given_fed hg 91 (by decide +kernel)
                  clear hg
                  exact st_yield ho (wanted_some rfl rfl h91 rfl) (.bool false) w6 (by simp [execOp, Act.eval, h16, go_sem]) ⟨_, rfl, Below.refl _ _, by rintro t' ⟨⟩; rfl⟩
                | 4, ho =>
                  obtain rfl := Option.some.inj ho
                  obtain ⟨_, h92, rfl⟩ := given_fed hg 92 (by decide +kernel)
                  obtain ⟨_, h91, rfl⟩ := given_fed hg 91 (by decide +kernel)
                  clear hg
                  exact st_yield ho (wanted_some rfl rfl h91 rfl) (.bool true) w6 (by simp [execOp, Act.eval, h92, go_sem]) ⟨_, rfl, Below.refl _ _, by rintro t' ⟨⟩; rfl⟩
                | 5, ho =>
                  obtain rfl := Option.some.inj ho
                  obtain ⟨_, h93, rfl⟩ := given_fed hg 93 (by decide +kernel)
                  obtain ⟨_, h91, rfl⟩ := given_fed hg 91 (by decide +kernel)
                  clear hg
                  exact st_yield ho (wanted_some rfl rfl h91 rfl) (.bool true) w6 (by simp [execOp, Act.eval, h93, go_sem]) ⟨_, rfl, Below.refl _ _, by rintro t' ⟨⟩; rfl⟩
                | 6, ho =>
                  obtain rfl := Option.some.inj ho
                  have h7 := given_old hg 7 (by decide +kernel)
                  obtain ⟨_, h94, rfl⟩ := given_fed hg 94 (by decide +kernel)
                  clear hg
                  exact st_yield ho (wanted_some rfl rfl h94 rfl) (.slice (some ⟨b, os, none⟩) m cq) w6 (by simp [execOp, Act.eval, h7, go_sem]) ⟨_, rfl, Below.refl _ _, by rintro t' ⟨⟩; rfl⟩
                | 7, ho =>
                  obtain rfl := Option.some.inj ho
                  have h12 := given_old hg 12 (by decide +kernel)
                  obtain ⟨_, h94, rfl⟩ := given_fed hg 94 (by decide +kernel)
                  clear hg
                  exact st_yield ho (wanted_some rfl rfl h94 rfl) (.int .i64 (k : Int)) w6 (by simp [execOp, Act.eval, h12, go_sem]) ⟨_, rfl, Below.refl _ _, by rintro t' ⟨⟩; rfl⟩
                | 8, ho =>
                  obtain rfl := Option.some.inj ho
                  obtain ⟨_, h95, rfl⟩ := given_fed hg 95 (by decide +kernel)
                  obtain ⟨_, h96, rfl⟩ := given_fed hg 96 (by decide +kernel)
                  obtain ⟨_, h94, rfl⟩ := given_fed hg 94 (by decide +kernel)
                  clear hg
                  exact st_yield ho (wanted_some rfl rfl h94 rfl) (.pointer (some ⟨b, os + k * 4, none⟩)) w6 (by simp [execOp, Act.eval, h95, h96, go_sem, hix]) ⟨_, rfl, Below.refl _ _, by rintro t' ⟨⟩; rfl⟩
                | 9, ho =>
                  obtain rfl := Option.some.inj ho
                  obtain ⟨_, h97, rfl⟩ := given_fed hg 97 (by decide +kernel)
                  obtain ⟨_, h94, rfl⟩ := given_fed hg 94 (by decide +kernel)
                  clear hg
                  exact st_yield ho (wanted_some rfl rfl h94 rfl) (.pointer (some ⟨b, os + k * 4, none⟩)) w6 (by simp [execOp, Act.eval, h97, go_sem]) ⟨_, rfl, Below.refl _ _, by rintro t' ⟨⟩; rfl⟩
                | 10, ho =>
                  obtain rfl := Option.some.inj ho
                  obtain ⟨_, h98, rfl⟩ := given_fed hg 98 (by decide +kernel)
                  obtain ⟨_, h94, rfl⟩ := given_fed hg 94 (by decide +kernel)
                  clear hg
                  exact st_yield ho (wanted_some rfl rfl h94 rfl) (.string ky) w6 (by simp [execOp, Act.eval, h98, go_sem, d0]) ⟨_, rfl, Below.refl _ _, by rintro t' ⟨⟩; rfl⟩
                | 11, ho =>
                  obtain rfl := Option.some.inj ho
                  have h3 := given_old hg 3 (by decide +kernel)
                  obtain ⟨_, h94, rfl⟩ := given_fed hg 94 (by decide +kernel)
                  clear hg
                  exact st_yield ho (wanted_some rfl rfl h94 rfl) (.pointer (some ⟨g3, 0, none⟩)) w6 (by simp [execOp, Act.eval, h3, go_sem]) ⟨_, rfl, Below.refl _ _, by rintro t' ⟨⟩; rfl⟩
                | 12, ho =>
                  obtain rfl := Option.some.inj ho
                  obtain ⟨_, h100, rfl⟩ := given_fed hg 100 (by decide +kernel)
                  obtain ⟨_, h94, rfl⟩ := given_fed hg 94 (by decide +kernel)
                  clear hg
                  exact st_yield ho (wanted_some rfl rfl h94 rfl) (.string y1) w6 (by simp [execOp, Act.eval, h100, go_sem, x0]) ⟨_, rfl, Below.refl _ _, by rintro t' ⟨⟩; rfl⟩
                | 13, ho =>
                  obtain rfl := Option.some.inj ho
                  obtain ⟨_, h99, rfl⟩ := given_fed hg 99 (by decide +kernel)
                  obtain ⟨_, h101, rfl⟩ := given_fed hg 101 (by decide +kernel)
                  obtain ⟨_, h94, rfl⟩ := given_fed hg 94 (by decide +kernel)
                  clear hg
                  exact st_yield ho (wanted_some rfl rfl h94 rfl) (.bool false) w6 (by simp [execOp, Act.eval, h99, h101, go_sem, hkk.out]) ⟨_, rfl, Below.refl _ _, by rintro t' ⟨⟩; rfl⟩
                | 14, ho =>
                  obtain rfl := Option.some.inj ho
                  obtain ⟨_, h94, rfl⟩ := given_fed hg 94 (by decide +kernel)
                  obtain ⟨_, h102, rfl⟩ := given_fed hg 102 (by decide +kernel)
                  obtain ⟨_, h91, rfl⟩ := given_fed hg 91 (by decide +kernel)
                  clear hg
                  exact st_yield ho (wanted_some rfl rfl h91 rfl) (.bool false) w6 (by simp [execOp, Act.eval, h94, h102, go_sem]) ⟨_, rfl, Below.refl _ _, by rintro t' ⟨⟩; rfl⟩
                | 15, ho =>
                  obtain rfl := Option.some.inj ho
                  obtain ⟨_, h91, rfl⟩ := given_fed hg 91 (by decide +kernel)
                  obtain ⟨_, h103, rfl⟩ := given_fed hg 103 (by decide +kernel)
                  clear hg
                  exact st_yield ho (wanted_none rfl) (.bool false) w6 (by simp [execOp, Act.eval, h91, h103, go_sem]) ⟨_, rfl, Below.refl _ _, by rintro t' ⟨⟩; rfl⟩
                | 16, ho =>
                  obtain rfl := Option.some.inj ho
                  obtain ⟨_, h104, rfl⟩ := given_fed hg 104 (by decide +kernel)
                  clear hg
                  exact st_yield ho (wanted_none rfl) (.bool false) w6 (by simp [execOp, Act.eval, h104, go_sem]) ⟨_, rfl, Below.refl _ _, by rintro t' ⟨⟩; rfl⟩
                | 17, ho =>
                  obtain rfl := Option.some.inj ho
                  have h16 := given_old hg 16 (by decide +kernel)
                  obtain ⟨_, h105, rfl⟩ := given_fed hg 105 (by decide +kernel)
                  clear hg
                  exact st_yield ho (wanted_some rfl rfl h105 rfl) (.bool false) w6 (by simp [execOp, Act.eval, h16, go_sem]) ⟨_, rfl, Below.refl _ _, by rintro t' ⟨⟩; rfl⟩
                | 18, ho =>
                  obtain rfl := Option.some.inj ho
                  obtain ⟨_, h106, rfl⟩ := given_fed hg 106 (by decide +kernel)
                  obtain ⟨_, h105, rfl⟩ := given_fed hg 105 (by decide +kernel)
                  clear hg
                  exact st_yield ho (wanted_some rfl rfl h105 rfl) (.bool false) w6 (by simp [execOp, Act.eval, h106, go_sem]) ⟨_, rfl, Below.refl _ _, by rintro t' ⟨⟩; rfl⟩
                | 19, ho =>
                  obtain rfl := Option.some.inj ho
                  obtain ⟨_, h107, rfl⟩ := given_fed hg 107 (by decide +kernel)
                  clear hg
                  exact st_skip ho (wanted_not rfl rfl h107 (by decide)) ⟨_, rfl, Below.refl _ _, by rintro t' ⟨⟩; rfl⟩
                | 20, ho =>
                  obtain rfl := Option.some.inj ho
                  obtain ⟨_, h107, rfl⟩ := given_fed hg 107 (by decide +kernel)
                  clear hg
                  exact st_skip ho (wanted_not rfl rfl h107 (by decide)) ⟨_, rfl, Below.refl _ _, by rintro t' ⟨⟩; rfl⟩
                | 21, ho =>
                  obtain rfl := Option.some.inj ho
                  obtain ⟨_, h107, rfl⟩ := given_fed hg 107 (by decide +kernel)
                  clear hg
                  exact st_skip ho (wanted_not rfl rfl h107 (by decide)) ⟨_, rfl, Below.refl _ _, by rintro t' ⟨⟩; rfl⟩
                | 22, ho =>
                  obtain rfl := Option.some.inj ho
                  obtain ⟨_, h107, rfl⟩ := given_fed hg 107 (by decide +kernel)
                  clear hg
                  exact st_skip ho (wanted_not rfl rfl h107 (by decide)) ⟨_, rfl, Below.refl _ _, by rintro t' ⟨⟩; rfl⟩
                | 23, ho =>
                  obtain rfl := Option.some.inj ho
                  obtain ⟨_, h107, rfl⟩ := given_fed hg 107 (by decide +kernel)
                  clear hg
                  exact st_skip ho (wanted_not rfl rfl h107 (by decide)) ⟨_, rfl, Below.refl _ _, by rintro t' ⟨⟩; rfl⟩
                | 24, ho =>
                  obtain rfl := Option.some.inj ho
                  obtain ⟨_, h107, rfl⟩ := given_fed hg 107 (by decide +kernel)
                  clear hg
                  exact st_skip ho (wanted_not rfl rfl h107 (by decide)) ⟨_, rfl, Below.refl _ _, by rintro t' ⟨⟩; rfl⟩
                | 25, ho =>
                  obtain rfl := Option.some.inj ho
                  obtain ⟨_, h107, rfl⟩ := given_fed hg 107 (by decide +kernel)
                  clear hg
                  exact st_skip ho (wanted_not rfl rfl h107 (by decide)) ⟨_, rfl, Below.refl _ _, by rintro t' ⟨⟩; rfl⟩
                | 26, ho =>
                  obtain rfl := Option.some.inj ho
                  obtain ⟨_, h107, rfl⟩ := given_fed hg 107 (by decide +kernel)
                  clear hg
                  exact st_skip ho (wanted_not rfl rfl h107 (by decide)) ⟨_, rfl, Below.refl _ _, by rintro t' ⟨⟩; rfl⟩
                | 27, ho =>
                  obtain rfl := Option.some.inj ho
                  obtain ⟨_, h107, rfl⟩ := given_fed hg 107 (by decide +kernel)
                  obtain ⟨_, h115, rfl⟩ := given_fed hg 115 (by decide +kernel)
                  obtain ⟨_, h105, rfl⟩ := given_fed hg 105 (by decide +kernel)
                  clear hg
                  exact st_yield ho (wanted_some rfl rfl h105 rfl) (.bool false) w6 (by simp [execOp, Act.eval, h107, h115, go_sem]) ⟨_, rfl, Below.refl _ _, by rintro t' ⟨⟩; rfl⟩
                | 28, ho =>
                  obtain rfl := Option.some.inj ho
                  obtain ⟨_, h116, rfl⟩ := given_fed hg 116 (by decide +kernel)
                  obtain ⟨_, h105, rfl⟩ := given_fed hg 105 (by decide +kernel)
                  clear hg
                  exact st_yield ho (wanted_some rfl rfl h105 rfl) (.bool false) w6 (by simp [execOp, Act.eval, h116, go_sem]) ⟨_, rfl, Below.refl _ _, by rintro t' ⟨⟩; rfl⟩
                | 29, ho =>
                  obtain rfl := Option.some.inj ho
                  obtain ⟨_, h117, rfl⟩ := given_fed hg 117 (by decide +kernel)
                  clear hg
                  exact st_skip ho (wanted_not rfl rfl h117 (by decide)) ⟨_, rfl, Below.refl _ _, by rintro t' ⟨⟩; rfl⟩
                | 30, ho =>
                  obtain rfl := Option.some.inj ho
                  obtain ⟨_, h117, rfl⟩ := given_fed hg 117 (by decide +kernel)
                  clear hg
                  exact st_skip ho (wanted_not rfl rfl h117 (by decide)) ⟨_, rfl, Below.refl _ _, by rintro t' ⟨⟩; rfl⟩
                | 31, ho =>
                  obtain rfl := Option.some.inj ho
                  obtain ⟨_, h117, rfl⟩ := given_fed hg 117 (by decide +kernel)
                  clear hg
                  exact st_skip ho (wanted_not rfl rfl h117 (by decide)) ⟨_, rfl, Below.refl _ _, by rintro t' ⟨⟩; rfl⟩
                | 32, ho =>
                  obtain rfl := Option.some.inj ho
                  obtain ⟨_, h117, rfl⟩ := given_fed hg 117 (by decide +kernel)
                  clear hg
                  exact st_skip ho (wanted_not rfl rfl h117 (by decide)) ⟨_, rfl, Below.refl _ _, by rintro t' ⟨⟩; rfl⟩
                | 33, ho =>
                  obtain rfl := Option.some.inj ho
                  obtain ⟨_, h117, rfl⟩ := given_fed hg 117 (by decide +kernel)
                  clear hg
                  exact st_skip ho (wanted_not rfl rfl h117 (by decide)) ⟨_, rfl, Below.refl _ _, by rintro t' ⟨⟩; rfl⟩
                | 34, ho =>
                  obtain rfl := Option.some.inj ho
                  obtain ⟨_, h117, rfl⟩ := given_fed hg 117 (by decide +kernel)
                  clear hg
                  exact st_skip ho (wanted_not rfl rfl h117 (by decide)) ⟨_, rfl, Below.refl _ _, by rintro t' ⟨⟩; rfl⟩
                | 35, ho =>
                  obtain rfl := Option.some.inj ho
                  obtain ⟨_, h123, rfl⟩ := given_fed hg 123 (by decide +kernel)
                  clear hg
                  exact st_skip ho (wanted_undef rfl rfl h123) ⟨_, rfl, Below.refl _ _, by rintro t' ⟨⟩; rfl⟩
                | 36, ho =>
                  obtain rfl := Option.some.inj ho
                  obtain ⟨_, h123, rfl⟩ := given_fed hg 123 (by decide +kernel)
                  clear hg
                  exact st_skip ho (wanted_undef rfl rfl h123) ⟨_, rfl, Below.refl _ _, by rintro t' ⟨⟩; rfl⟩
                | 37, ho =>
                  obtain rfl := Option.some.inj ho
                  obtain ⟨_, h123, rfl⟩ := given_fed hg 123 (by decide +kernel)
                  clear hg
                  exact st_skip ho (wanted_undef rfl rfl h123) ⟨_, rfl, Below.refl _ _, by rintro t' ⟨⟩; rfl⟩
                | 38, ho =>
                  obtain rfl := Option.some.inj ho
                  obtain ⟨_, h123, rfl⟩ := given_fed hg 123 (by decide +kernel)
                  clear hg
                  exact st_skip ho (wanted_undef rfl rfl h123) ⟨_, rfl, Below.refl _ _, by rintro t' ⟨⟩; rfl⟩
                | 39, ho =>
                  obtain rfl := Option.some.inj ho
                  obtain ⟨_, h123, rfl⟩ := given_fed hg 123 (by decide +kernel)
                  clear hg
                  exact st_skip ho (wanted_undef rfl rfl h123) ⟨_, rfl, Below.refl _ _, by rintro t' ⟨⟩; rfl⟩
                | 40, ho =>
                  obtain rfl := Option.some.inj ho
                  obtain ⟨_, h117, rfl⟩ := given_fed hg 117 (by decide +kernel)
                  clear hg
                  exact st_skip ho (wanted_not rfl rfl h117 (by decide)) ⟨_, rfl, Below.refl _ _, by rintro t' ⟨⟩; rfl⟩
                | 41, ho =>
                  obtain rfl := Option.some.inj ho
                  obtain ⟨_, h117, rfl⟩ := given_fed hg 117 (by decide +kernel)
                  clear hg
                  exact st_skip ho (wanted_not rfl rfl h117 (by decide)) ⟨_, rfl, Below.refl _ _, by rintro t' ⟨⟩; rfl⟩
                | 42, ho =>
                  obtain rfl := Option.some.inj ho
                  obtain ⟨_, h130, rfl⟩ := given_fed hg 130 (by decide +kernel)
                  clear hg
                  exact st_skip ho (wanted_undef rfl rfl h130) ⟨_, rfl, Below.refl _ _, by rintro t' ⟨⟩; rfl⟩
                | 43, ho =>
                  obtain rfl := Option.some.inj ho
                  obtain ⟨_, h130, rfl⟩ := given_fed hg 130 (by decide +kernel)
                  clear hg
                  exact st_skip ho (wanted_undef rfl rfl h130) ⟨_, rfl, Below.refl _ _, by rintro t' ⟨⟩; rfl⟩
                | 44, ho =>
                  obtain rfl := Option.some.inj ho
                  obtain ⟨_, h130, rfl⟩ := given_fed hg 130 (by decide +kernel)
                  clear hg
                  exact st_skip ho (wanted_undef rfl rfl h130) ⟨_, rfl, Below.refl _ _, by rintro t' ⟨⟩; rfl⟩
                | 45, ho =>
                  obtain rfl := Option.some.inj ho
                  obtain ⟨_, h130, rfl⟩ := given_fed hg 130 (by decide +kernel)
                  clear hg
                  exact st_skip ho (wanted_undef rfl rfl h130) ⟨_, rfl, Below.refl _ _, by rintro t' ⟨⟩; rfl⟩
                | 46, ho =>
                  obtain rfl := Option.some.inj ho
                  obtain ⟨_, h130, rfl⟩ := given_fed hg 130 (by decide +kernel)
                  clear hg
                  exact st_skip ho (wanted_undef rfl rfl h130) ⟨_, rfl, Below.refl _ _, by rintro t' ⟨⟩; rfl⟩
                | 47, ho =>
                  obtain rfl := Option.some.inj ho
                  obtain ⟨_, h117, rfl⟩ := given_fed hg 117 (by decide +kernel)
                  clear hg
                  exact st_skip ho (wanted_not rfl rfl h117 (by decide)) ⟨_, rfl, Below.refl _ _, by rintro t' ⟨⟩; rfl⟩
                | 48, ho =>
                  obtain rfl := Option.some.inj ho
                  obtain ⟨_, h117, rfl⟩ := given_fed hg 117 (by decide +kernel)
                  obtain ⟨_, h136, rfl⟩ := given_fed hg 136 (by decide +kernel)
                  obtain ⟨_, h105, rfl⟩ := given_fed hg 105 (by decide +kernel)
                  clear hg
                  exact st_yield ho (wanted_some rfl rfl h105 rfl) (.bool false) w6 (by simp [execOp, Act.eval, h117, h136, go_sem]) ⟨_, rfl, Below.refl _ _, by rintro t' ⟨⟩; rfl⟩
                | 49, ho =>
                  obtain rfl := Option.some.inj ho
                  obtain ⟨_, h105, rfl⟩ := given_fed hg 105 (by decide +kernel)
                  obtain ⟨_, h137, rfl⟩ := given_fed hg 137 (by decide +kernel)
                  clear hg
                  exact st_yield ho (wanted_none rfl) (.bool false) w6 (by simp [execOp, Act.eval, h105, h137, go_sem]) ⟨_, rfl, Below.refl _ _, by rintro t' ⟨⟩; rfl⟩
                | n + 50, ho => simp at ho
              · intro f w8 hb8 hv
                have h138 := hv 138 (by decide)
                simp only [VOA] at h138
                have HF := Go.Lib.hid (HWW.out.trans (hb8.mono HWW.out.size))
                clear hv hb8 HX3 HKY HWW
                unfold putAll
                simp only [List.foldl]
                simp only [h138]
                clear h138
                go_simp
                go_wp2_with fail
                exact ⟨⟨k + 1, by omega, by go_num, HF⟩, by simp only [intOf]; omega⟩
            | true =>
              refine wp_region_each (by kernel_rfl) (VOB b os m cq k g3 g13 g15 ky y1 sx ax nx) (VOB_below b os m cq k g3 g13 g15 ky y1 sx ax nx) (by decide +kernel) (by decide +kernel) (by rfl) [89, 90, 91, 92, 93, 94, 95, 96, 97, 98, 99, 100, 101, 102, 103, 104, 105, 106, 107, 108, 109, 110, 111, 112, 113, 114, 115, 116, 117, 118, 119, 120, 121, 122, 123, 124, 125, 126, 127, 128, 129, 130, 131, 132, 133, 134, 135, 136, 137, 138] (by rfl) ?_ ?_
              · intro i o ho a w6 hb6 hlen hg
                have d0 := HKY.out w6 hb6
                obtain ⟨x0, -, -, -, -⟩ := row5 (row_kept HX3.out hb6)
                match i, ho with
                | 0, ho =>
                  obtain rfl := Option.some.inj ho
                  have h14 := given_old hg 14 (by decide +kernel)
                  clear hg
                  exact st_yield ho (wanted_none rfl) (.bool true) w6 (by simp [execOp, Act.eval, h14, go_sem]) ⟨_, rfl, Below.refl _ _, by rintro t' ⟨⟩; rfl⟩
                | 1, ho =>
                  obtain rfl := Option.some.inj ho
                  obtain ⟨_, h89, rfl⟩ := given_fed hg 89 (by decide +kernel)
                  clear hg
                  exact st_yield ho (wanted_none rfl) (.bool false) w6 (by simp [execOp, Act.eval, h89, go_sem]) ⟨_, rfl, Below.refl _ _, by rintro t' ⟨⟩; rfl⟩
                | 2, ho =>
                  obtain rfl := Option.some.inj ho
                  obtain ⟨_, h90, rfl⟩ := given_fed hg 90 (by decide +kernel)
                  clear hg
                  exact st_yield ho (wanted_none rfl) (.bool false) w6 (by simp [execOp, Act.eval, h90, go_sem]) ⟨_, rfl, Below.refl _ _, by rintro t' ⟨⟩; rfl⟩
                | 3, ho =>
                  obtain rfl := Option.some.inj ho
                  have h16 := given_old hg 16 (by decide +kernel)
                  obtain ⟨_, h91, rfl⟩ := given_fed hg 91 (by decide +kernel)
                  clear hg
                  exact st_yield ho (wanted_some rfl rfl h91 rfl) (.bool true) w6 (by simp [execOp, Act.eval, h16, go_sem]) ⟨_, rfl, Below.refl _ _, by rintro t' ⟨⟩; rfl⟩
                | 4, ho =>
                  obtain rfl := Option.some.inj ho
                  obtain ⟨_, h92, rfl⟩ := given_fed hg 92 (by decide +kernel)
                  obtain ⟨_, h91, rfl⟩ := given_fed hg 91 (by decide +kernel)
                  clear hg
                  exact st_yield ho (wanted_some rfl rfl h91 rfl) (.bool false) w6 (by simp [execOp, Act.eval, h92, go_sem]) ⟨_, rfl, Below.refl _ _, by rintro t' ⟨⟩; rfl⟩
                | 5, ho =>
                  obtain rfl := Option.some.inj ho
                  obtain ⟨_, h93, rfl⟩ := given_fed hg 93 (by decide +kernel)
                  obtain ⟨_, h91, rfl⟩ := given_fed hg 91 (by decide +kernel)
                  clear hg
                  exact st_yield ho (wanted_some rfl rfl h91 rfl) (.bool false) w6 (by simp [execOp, Act.eval, h93, go_sem]) ⟨_, rfl, Below.refl _ _, by rintro t' ⟨⟩; rfl⟩
                | 6, ho =>
                  obtain rfl := Option.some.inj ho
                  obtain ⟨_, h94, rfl⟩ := given_fed hg 94 (by decide +kernel)
                  clear hg
                  exact st_skip ho (wanted_not rfl rfl h94 (by decide)) ⟨_, rfl, Below.refl _ _, by rintro t' ⟨⟩; rfl⟩
                | 7, ho =>
                  obtain rfl := Option.some.inj ho
                  obtain ⟨_, h94, rfl⟩ := given_fed hg 94 (by decide +kernel)
                  clear hg
                  exact st_skip ho (wanted_not rfl rfl h94 (by decide)) ⟨_, rfl, Below.refl _ _, by rintro t' ⟨⟩; rfl⟩
                | 8, ho =>
                  obtain rfl := Option.some.inj ho
                  obtain ⟨_, h94, rfl⟩ := given_fed hg 94 (by decide +kernel)
                  clear hg
                  exact st_skip ho (wanted_not rfl rfl h94 (by decide)) ⟨_, rfl, Below.refl _ _, by rintro t' ⟨⟩; rfl⟩
                | 9, ho =>
                  obtain rfl := Option.some.inj ho
                  obtain ⟨_, h94, rfl⟩ := given_fed hg 94 (by decide +kernel)
                  clear hg
                  exact st_skip ho (wanted_not rfl rfl h94 (by decide)) ⟨_, rfl, Below.refl _ _, by rintro t' ⟨⟩; rfl⟩
                | 10, ho =>
                  obtain rfl := Option.some.inj ho
                  obtain ⟨_, h94, rfl⟩ := given_fed hg 94 (by decide +kernel)
                  clear hg
                  exact st_skip ho (wanted_not rfl rfl h94 (by decide)) ⟨_, rfl, Below.refl _ _, by rintro t' ⟨⟩; rfl⟩
                | 11, ho =>
                  obtain rfl := Option.some.inj ho
                  obtain ⟨_, h94, rfl⟩ := given_fed hg 94 (by decide +kernel)
                  clear hg
                  exact st_skip ho (wanted_not rfl rfl h94 (by decide)) ⟨_, rfl, Below.refl _ _, by rintro t' ⟨⟩; rfl⟩
                | 12, ho =>
                  obtain rfl := Option.some.inj ho
                  obtain ⟨_, h94, rfl⟩ := given_fed hg 94 (by decide +kernel)
                  clear hg
                  exact st_skip ho (wanted_not rfl rfl h94 (by decide)) ⟨_, rfl, Below.refl _ _, by rintro t' ⟨⟩; rfl⟩
                | 13, ho =>
                  obtain rfl := Option.some.inj ho
                  obtain ⟨_, h94, rfl⟩ := given_fed hg 94 (by decide +kernel)
                  clear hg
                  exact st_skip ho (wanted_not rfl rfl h94 (by decide)) ⟨_, rfl, Below.refl _ _, by rintro t' ⟨⟩; rfl⟩
                | 14, ho =>
                  obtain rfl := Option.some.inj ho
                  obtain ⟨_, h94, rfl⟩ := given_fed hg 94 (by decide +kernel)
                  obtain ⟨_, h102, rfl⟩ := given_fed hg 102 (by decide +kernel)
                  obtain ⟨_, h91, rfl⟩ := given_fed hg 91 (by decide +kernel)
                  clear hg
                  exact st_yield ho (wanted_some rfl rfl h91 rfl) (.bool false) w6 (by simp [execOp, Act.eval, h94, h102, go_sem]) ⟨_, rfl, Below.refl _ _, by rintro t' ⟨⟩; rfl⟩
                | 15, ho =>
                  obtain rfl := Option.some.inj ho
                  obtain ⟨_, h91, rfl⟩ := given_fed hg 91 (by decide +kernel)
                  obtain ⟨_, h103, rfl⟩ := given_fed hg 103 (by decide +kernel)
                  clear hg
                  exact st_yield ho (wanted_none rfl) (.bool false) w6 (by simp [execOp, Act.eval, h91, h103, go_sem]) ⟨_, rfl, Below.refl _ _, by rintro t' ⟨⟩; rfl⟩
                | 16, ho =>
                  obtain rfl := Option.some.inj ho
                  obtain ⟨_, h104, rfl⟩ := given_fed hg 104 (by decide +kernel)
                  clear hg
                  exact st_yield ho (wanted_none rfl) (.bool false) w6 (by simp [execOp, Act.eval, h104, go_sem]) ⟨_, rfl, Below.refl _ _, by rintro t' ⟨⟩; rfl⟩
                | 17, ho =>
                  obtain rfl := Option.some.inj ho
                  have h16 := given_old hg 16 (by decide +kernel)
                  obtain ⟨_, h105, rfl⟩ := given_fed hg 105 (by decide +kernel)
                  clear hg
                  exact st_yield ho (wanted_some rfl rfl h105 rfl) (.bool true) w6 (by simp [execOp, Act.eval, h16, go_sem]) ⟨_, rfl, Below.refl _ _, by rintro t' ⟨⟩; rfl⟩
                | 18, ho =>
                  obtain rfl := Option.some.inj ho
                  obtain ⟨_, h106, rfl⟩ := given_fed hg 106 (by decide +kernel)
                  obtain ⟨_, h105, rfl⟩ := given_fed hg 105 (by decide +kernel)
                  clear hg
                  exact st_yield ho (wanted_some rfl rfl h105 rfl) (.bool true) w6 (by simp [execOp, Act.eval, h106, go_sem]) ⟨_, rfl, Below.refl _ _, by rintro t' ⟨⟩; rfl⟩
                | 19, ho =>
                  obtain rfl := Option.some.inj ho
                  have h7 := given_old hg 7 (by decide +kernel)
                  obtain ⟨_, h107, rfl⟩ := given_fed hg 107 (by decide +kernel)
                  clear hg
                  exact st_yield ho (wanted_some rfl rfl h107 rfl) (.slice (some ⟨b, os, none⟩) m cq) w6 (by simp [execOp, Act.eval, h7, go_sem]) ⟨_, rfl, Below.refl _ _, by rintro t' ⟨⟩; rfl⟩
                | 20, ho =>
                  obtain rfl := Option.some.inj ho
                  have h12 := given_old hg 12 (by decide +kernel)
                  obtain ⟨_, h107, rfl⟩ := given_fed hg 107 (by decide +kernel)
                  clear hg
                  exact st_yield ho (wanted_some rfl rfl h107 rfl) (.int .i64 (k : Int)) w6 (by simp [execOp, Act.eval, h12, go_sem]) ⟨_, rfl, Below.refl _ _, by rintro t' ⟨⟩; rfl⟩
                | 21, ho =>
                  obtain rfl := Option.some.inj ho
                  obtain ⟨_, h108, rfl⟩ := given_fed hg 108 (by decide +kernel)
                  obtain ⟨_, h109, rfl⟩ := given_fed hg 109 (by decide +kernel)
                  obtain ⟨_, h107, rfl⟩ := given_fed hg 107 (by decide +kernel)
                  clear hg
                  exact st_yield ho (wanted_some rfl rfl h107 rfl) (.pointer (some ⟨b, os + k * 4, none⟩)) w6 (by simp [execOp, Act.eval, h108, h109, go_sem, hix]) ⟨_, rfl, Below.refl _ _, by rintro t' ⟨⟩; rfl⟩
                | 22, ho =>
                  obtain rfl := Option.some.inj ho
                  obtain ⟨_, h110, rfl⟩ := given_fed hg 110 (by decide +kernel)
                  obtain ⟨_, h107, rfl⟩ := given_fed hg 107 (by decide +kernel)
                  clear hg
                  exact st_yield ho (wanted_some rfl rfl h107 rfl) (.pointer (some ⟨b, os + k * 4, none⟩)) w6 (by simp [execOp, Act.eval, h110, go_sem]) ⟨_, rfl, Below.refl _ _, by rintro t' ⟨⟩; rfl⟩
                | 23, ho =>
                  obtain rfl := Option.some.inj ho
                  obtain ⟨_, h111, rfl⟩ := given_fed hg 111 (by decide +kernel)
                  obtain ⟨_, h107, rfl⟩ := given_fed hg 107 (by decide +kernel)
                  clear hg
                  exact st_yield ho (wanted_some rfl rfl h107 rfl) (.string ky) w6 (by simp [execOp, Act.eval, h111, go_sem, d0]) ⟨_, rfl, Below.refl _ _, by rintro t' ⟨⟩; rfl⟩
                | 24, ho =>
                  obtain rfl := Option.some.inj ho
                  have h3 := given_old hg 3 (by decide +kernel)
                  obtain ⟨_, h107, rfl⟩ := given_fed hg 107 (by decide +kernel)
                  clear hg
                  exact st_yield ho (wanted_some rfl rfl h107 rfl) (.pointer (some ⟨g3, 0, none⟩)) w6 (by simp [execOp, Act.eval, h3, go_sem]) ⟨_, rfl, Below.refl _ _, by rintro t' ⟨⟩; rfl⟩
                | 25, ho =>
                  obtain rfl := Option.some.inj ho
                  obtain ⟨_, h113, rfl⟩ := given_fed hg 113 (by decide +kernel)
                  obtain ⟨_, h107, rfl⟩ := given_fed hg 107 (by decide +kernel)
                  clear hg
                  exact st_yield ho (wanted_some rfl rfl h107 rfl) (.string y1) w6 (by simp [execOp, Act.eval, h113, go_sem, x0]) ⟨_, rfl, Below.refl _ _, by rintro t' ⟨⟩; rfl⟩
                | 26, ho =>
                  obtain rfl := Option.some.inj ho
                  obtain ⟨_, h112, rfl⟩ := given_fed hg 112 (by decide +kernel)
                  obtain ⟨_, h114, rfl⟩ := given_fed hg 114 (by decide +kernel)
                  obtain ⟨_, h107, rfl⟩ := given_fed hg 107 (by decide +kernel)
                  clear hg
                  exact st_yield ho (wanted_some rfl rfl h107 rfl) (.bool false) w6 (by simp [execOp, Act.eval, h112, h114, go_sem, hkk.out]) ⟨_, rfl, Below.refl _ _, by rintro t' ⟨⟩; rfl⟩
                | 27, ho =>
                  obtain rfl := Option.some.inj ho
                  obtain ⟨_, h107, rfl⟩ := given_fed hg 107 (by decide +kernel)
                  obtain ⟨_, h115, rfl⟩ := given_fed hg 115 (by decide +kernel)
                  obtain ⟨_, h105, rfl⟩ := given_fed hg 105 (by decide +kernel)
                  clear hg
                  exact st_yield ho (wanted_some rfl rfl h105 rfl) (.bool false) w6 (by simp [execOp, Act.eval, h107, h115, go_sem]) ⟨_, rfl, Below.refl _ _, by rintro t' ⟨⟩; rfl⟩
                | 28, ho =>
                  obtain rfl := Option.some.inj ho
                  obtain ⟨_, h116, rfl⟩ := given_fed hg 116 (by decide +kernel)
                  obtain ⟨_, h105, rfl⟩ := given_fed hg 105 (by decide +kernel)
                  clear hg
                  exact st_yield ho (wanted_some rfl rfl h105 rfl) (.bool false) w6 (by simp [execOp, Act.eval, h116, go_sem]) ⟨_, rfl, Below.refl _ _, by rintro t' ⟨⟩; rfl⟩
                | 29, ho =>
                  obtain rfl := Option.some.inj ho
                  obtain ⟨_, h117, rfl⟩ := given_fed hg 117 (by decide +kernel)
                  clear hg
                  exact st_skip ho (wanted_not rfl rfl h117 (by decide)) ⟨_, rfl, Below.refl _ _, by rintro t' ⟨⟩; rfl⟩
                | 30, ho =>
                  obtain rfl := Option.some.inj ho
                  obtain ⟨_, h117, rfl⟩ := given_fed hg 117 (by decide +kernel)
                  clear hg
                  exact st_skip ho (wanted_not rfl rfl h117 (by decide)) ⟨_, rfl, Below.refl _ _, by rintro t' ⟨⟩; rfl⟩
                | 31, ho =>
                  obtain rfl := Option.some.inj ho
                  obtain ⟨_, h117, rfl⟩ := given_fed hg 117 (by decide +kernel)
                  clear hg
                  exact st_skip ho (wanted_not rfl rfl h117 (by decide)) ⟨_, rfl, Below.refl _ _, by rintro t' ⟨⟩; rfl⟩
                | 32, ho =>
                  obtain rfl := Option.some.inj ho
                  obtain ⟨_, h117, rfl⟩ := given_fed hg 117 (by decide +kernel)
                  clear hg
                  exact st_skip ho (wanted_not rfl rfl h117 (by decide)) ⟨_, rfl, Below.refl _ _, by rintro t' ⟨⟩; rfl⟩
                | 33, ho =>
                  obtain rfl := Option.some.inj ho
                  obtain ⟨_, h117, rfl⟩ := given_fed hg 117 (by decide +kernel)
                  clear hg
                  exact st_skip ho (wanted_not rfl rfl h117 (by decide)) ⟨_, rfl, Below.refl _ _, by rintro t' ⟨⟩; rfl⟩
                | 34, ho =>
                  obtain rfl := Option.some.inj ho
                  obtain ⟨_, h117, rfl⟩ := given_fed hg 117 (by decide +kernel)
                  clear hg
                  exact st_skip ho (wanted_not rfl rfl h117 (by decide)) ⟨_, rfl, Below.refl _ _, by rintro t' ⟨⟩; rfl⟩
                | 35, ho =>
                  obtain rfl := Option.some.inj ho
                  obtain ⟨_, h123, rfl⟩ := given_fed hg 123 (by decide +kernel)
                  clear hg
                  exact st_skip ho (wanted_undef rfl rfl h123) ⟨_, rfl, Below.refl _ _, by rintro t' ⟨⟩; rfl⟩
                | 36, ho =>
                  obtain rfl := Option.some.inj ho
                  obtain ⟨_, h123, rfl⟩ := given_fed hg 123 (by decide +kernel)
                  clear hg
                  exact st_skip ho (wanted_undef rfl rfl h123) ⟨_, rfl, Below.refl _ _, by rintro t' ⟨⟩; rfl⟩
                | 37, ho =>
                  obtain rfl := Option.some.inj ho
                  obtain ⟨_, h123, rfl⟩ := given_fed hg 123 (by decide +kernel)
                  clear hg
                  exact st_skip ho (wanted_undef rfl rfl h123) ⟨_, rfl, Below.refl _ _, by rintro t' ⟨⟩; rfl⟩
                | 38, ho =>
                  obtain rfl := Option.some.inj ho
                  obtain ⟨_, h123, rfl⟩ := given_fed hg 123 (by decide +kernel)
                  clear hg
                  exact st_skip ho (wanted_undef rfl rfl h123) ⟨_, rfl, Below.refl _ _, by rintro t' ⟨⟩; rfl⟩
                | 39, ho =>
                  obtain rfl := Option.some.inj ho
                  obtain ⟨_, h123, rfl⟩ := given_fed hg 123 (by decide +kernel)
                  clear hg
                  exact st_skip ho (wanted_undef rfl rfl h123) ⟨_, rfl, Below.refl _ _, by rintro t' ⟨⟩; rfl⟩
                | 40, ho =>
                  obtain rfl := Option.some.inj ho
                  obtain ⟨_, h117, rfl⟩ := given_fed hg 117 (by decide +kernel)
                  clear hg
                  exact st_skip ho (wanted_not rfl rfl h117 (by decide)) ⟨_, rfl, Below.refl _ _, by rintro t' ⟨⟩; rfl⟩
                | 41, ho =>
                  obtain rfl := Option.some.inj ho
                  obtain ⟨_, h117, rfl⟩ := given_fed hg 117 (by decide +kernel)
                  clear hg
                  exact st_skip ho (wanted_not rfl rfl h117 (by decide)) ⟨_, rfl, Below.refl _ _, by rintro t' ⟨⟩; rfl⟩
                | 42, ho =>
                  obtain rfl := Option.some.inj ho
                  obtain ⟨_, h130, rfl⟩ := given_fed hg 130 (by decide +kernel)
                  clear hg
                  exact st_skip ho (wanted_undef rfl rfl h130) ⟨_, rfl, Below.refl _ _, by rintro t' ⟨⟩; rfl⟩
                | 43, ho =>
                  obtain rfl := Option.some.inj ho
                  obtain ⟨_, h130, rfl⟩ := given_fed hg 130 (by decide +kernel)
                  clear hg
                  exact st_skip ho (wanted_undef rfl rfl h130) ⟨_, rfl, Below.refl _ _, by rintro t' ⟨⟩; rfl⟩
                | 44, ho =>
                  obtain rfl := Option.some.inj ho
                  obtain ⟨_, h130, rfl⟩ := given_fed hg 130 (by decide +kernel)
                  clear hg
                  exact st_skip ho (wanted_undef rfl rfl h130) ⟨_, rfl, Below.refl _ _, by rintro t' ⟨⟩; rfl⟩
                | 45, ho =>
                  obtain rfl := Option.some.inj ho
                  obtain ⟨_, h130, rfl⟩ := given_fed hg 130 (by decide +kernel)
                  clear hg
                  exact st_skip ho (wanted_undef rfl rfl h130) ⟨_, rfl, Below.refl _ _, by rintro t' ⟨⟩; rfl⟩
                | 46, ho =>
                  obtain rfl := Option.some.inj ho
                  obtain ⟨_, h130, rfl⟩ := given_fed hg 130 (by decide +kernel)
                  clear hg
                  exact st_skip ho (wanted_undef rfl rfl h130) ⟨_, rfl, Below.refl _ _, by rintro t' ⟨⟩; rfl⟩
                | 47, ho =>
                  obtain rfl := Option.some.inj ho
                  obtain ⟨_, h117, rfl⟩ := given_fed hg 117 (by decide +kernel)
                  clear hg
                  exact st_skip ho (wanted_not rfl rfl h117 (by decide)) ⟨_, rfl, Below.refl _ _, by rintro t' ⟨⟩; rfl⟩
                | 48, ho =>
                  obtain rfl := Option.some.inj ho
                  obtain ⟨_, h117, rfl⟩ := given_fed hg 117 (by decide +kernel)
                  obtain ⟨_, h136, rfl⟩ := given_fed hg 136 (by decide +kernel)
                  obtain ⟨_, h105, rfl⟩ := given_fed hg 105 (by decide +kernel)
                  clear hg
                  exact st_yield ho (wanted_some rfl rfl h105 rfl) (.bool false) w6 (by simp [execOp, Act.eval, h117, h136, go_sem]) ⟨_, rfl, Below.refl _ _, by rintro t' ⟨⟩; rfl⟩
                | 49, ho =>
                  obtain rfl := Option.some.inj ho
                  obtain ⟨_, h105, rfl⟩ := given_fed hg 105 (by decide +kernel)
                  obtain ⟨_, h137, rfl⟩ := given_fed hg 137 (by decide +kernel)
                  clear hg
                  exact st_yield ho (wanted_none rfl) (.bool false) w6 (by simp [execOp, Act.eval, h105, h137, go_sem]) ⟨_, rfl, Below.refl _ _, by rintro t' ⟨⟩; rfl⟩
                | n + 50, ho => simp at ho
              · intro f w8 hb8 hv
                have h138 := hv 138 (by decide)
                simp only [VOB] at h138
                have HF := Go.Lib.hid (HWW.out.trans (hb8.mono HWW.out.size))
                clear hv hb8 HX3 HKY HWW
                unfold putAll
                simp only [List.foldl]
                simp only [h138]
                clear h138
                go_simp
                go_wp2_with fail
                exact ⟨⟨k + 1, by omega, by go_num, HF⟩, by simp only [intOf]; omega⟩
          · have HIP := Go.Lib.hid (show (ky, gx, ax, nx, sx) ∈ P from by
              rcases HMX.out with h | h
              · exact absurd (by rw [h]) hkk
              · exact h)
            have hkk := Go.Lib.hid hkk
            have HFX := Go.Lib.hid (HFP.out _ HIP.out)
            have CGX := CGP.out _ ky HWV.out HKS.out
            rw [HFX.out] at CGX
            unfold outV at CGX
            simp only [] at CGX
            have CGX := Go.Lib.hid CGX
            clear HFX HIP HMX
            go_wp2_with fail
            refine CGX.out.mono ?_
            rintro e ww ⟨rfl, hc⟩
            have hbA := below_one ww (.cells #[.int .i64 ax, .int .i64 nx, .string sx] 37)
            have HXW := Go.Lib.hid (heap_alloc_new ww (.cells #[.int .i64 ax, .int .i64 nx, .string sx] 37))
            have hcA := hc.trans (hbA.mono hc.size)
            have HWW := Go.Lib.hid (HWV.out.trans (hcA.mono HWV.out.size))
            have HX3 := Go.Lib.hid (row_kept HX3.out HWW.out)
            have HXV := Go.Lib.hid (row_kept HXV.out hcA)
            have c0 := cell_kept c0 hcA
            clear hc hbA hcA CGX HWV
            go_upto_region 17 with (fail)
            obtain ⟨g15, hg15⟩ : ∃ g, g = ww.heap.size := ⟨_, rfl⟩
            rw [← hg15] at HXW ⊢
            clear hg15
            generalize ww.alloc (.cells #[.int .i64 ax, .int .i64 nx, .string sx] 37) = ww1 at *
            have HKY := Go.Lib.hid (show ∀ W, Below ww1.heap.size ww1 W → W.cell? ⟨b, os + k * 4, none⟩ = some (.string ky) from fun W hb => cell_kept c0 hb)
            clear c0 hbl
            refine wp_region_each (by kernel_rfl) (VOC b os m cq k g3 g13 g15 ky y1 sx ax nx) (VOC_below b os m cq k g3 g13 g15 ky y1 sx ax nx) (by decide +kernel) (by decide +kernel) (by rfl) [89, 90, 91, 92, 93, 94, 95, 96, 97, 98, 99, 100, 101, 102, 103, 104, 105, 106, 107, 108, 109, 110, 111, 112, 113, 114, 115, 116, 117, 118, 119, 120, 121, 122, 123, 124, 125, 126, 127, 128, 129, 130, 131, 132, 133, 134, 135, 136, 137, 138] (by rfl) ?_ ?_
            · intro i o ho a w6 hb6 hlen hg
              have d0 := HKY.out w6 hb6
              obtain ⟨x0, -, -, -, -⟩ := row5 (row_kept HX3.out hb6)
              obtain ⟨v0, v1, v2⟩ := raw3 (row_kept HXV.out hb6)
              obtain ⟨w0, w1, w2⟩ := raw3 (row_kept HXW.out hb6)
              match i, ho with
              | 0, ho =>
                obtain rfl := Option.some.inj ho
                have h14 := given_old hg 14 (by decide +kernel)
                clear hg
                exact st_yield ho (wanted_none rfl) (.bool true) w6 (by simp [execOp, Act.eval, h14, go_sem]) ⟨_, rfl, Below.refl _ _, by rintro t' ⟨⟩; rfl⟩
              | 1, ho =>
                obtain rfl := Option.some.inj ho
                obtain ⟨_, h89, rfl⟩ := given_fed hg 89 (by decide +kernel)
                clear hg
                exact st_yield ho (wanted_none rfl) (.bool false) w6 (by simp [execOp, Act.eval, h89, go_sem]) ⟨_, rfl, Below.refl _ _, by rintro t' ⟨⟩; rfl⟩
              | 2, ho =>
                obtain rfl := Option.some.inj ho
                obtain ⟨_, h90, rfl⟩ := given_fed hg 90 (by decide +kernel)
                clear hg
                exact st_yield ho (wanted_none rfl) (.bool false) w6 (by simp [execOp, Act.eval, h90, go_sem]) ⟨_, rfl, Below.refl _ _, by rintro t' ⟨⟩; rfl⟩
              | 3, ho =>
                obtain rfl := Option.some.inj ho
                have h16 := given_old hg 16 (by decide +kernel)
                obtain ⟨_, h91, rfl⟩ := given_fed hg 91 (by decide +kernel)
                clear hg
                exact st_yield ho (wanted_some rfl rfl h91 rfl) (.bool true) w6 (by simp [execOp, Act.eval, h16, go_sem]) ⟨_, rfl, Below.refl _ _, by rintro t' ⟨⟩; rfl⟩
              | 4, ho =>
                obtain rfl := Option.some.inj ho
                obtain ⟨_, h92, rfl⟩ := given_fed hg 92 (by decide +kernel)
                obtain ⟨_, h91, rfl⟩ := given_fed hg 91 (by decide +kernel)
                clear hg
                exact st_yield ho (wanted_some rfl rfl h91 rfl) (.bool false) w6 (by simp [execOp, Act.eval, h92, go_sem]) ⟨_, rfl, Below.refl _ _, by rintro t' ⟨⟩; rfl⟩
              | 5, ho =>
                obtain rfl := Option.some.inj ho
                obtain ⟨_, h93, rfl⟩ := given_fed hg 93 (by decide +kernel)
                obtain ⟨_, h91, rfl⟩ := given_fed hg 91 (by decide +kernel)
                clear hg
                exact st_yield ho (wanted_some rfl rfl h91 rfl) (.bool false) w6 (by simp [execOp, Act.eval, h93, go_sem]) ⟨_, rfl, Below.refl _ _, by rintro t' ⟨⟩; rfl⟩
              | 6, ho =>
                obtain rfl := Option.some.inj ho
                obtain ⟨_, h94, rfl⟩ := given_fed hg 94 (by decide +kernel)
                clear hg
                exact st_skip ho (wanted_not rfl rfl h94 (by decide)) ⟨_, rfl, Below.refl _ _, by rintro t' ⟨⟩; rfl⟩
              | 7, ho =>
                obtain rfl := Option.some.inj ho
                obtain ⟨_, h94, rfl⟩ := given_fed hg 94 (by decide +kernel)
                clear hg
                exact st_skip ho (wanted_not rfl rfl h94 (by decide)) ⟨_, rfl, Below.refl _ _, by rintro t' ⟨⟩; rfl⟩
              | 8, ho =>
                obtain rfl := Option.some.inj ho
                obtain ⟨_, h94, rfl⟩ := given_fed hg 94 (by decide +kernel)
                clear hg
                exact st_skip ho (wanted_not rfl rfl h94 (by decide)) ⟨_, rfl, Below.refl _ _, by rintro t' ⟨⟩; rfl⟩
              | 9, ho =>
                obtain rfl := Option.some.inj ho
                obtain ⟨_, h94, rfl⟩ := given_fed hg 94 (by decide +kernel)
                clear hg
                exact st_skip ho (wanted_not rfl rfl h94 (by decide)) ⟨_, rfl, Below.refl _ _, by rintro t' ⟨⟩; rfl⟩
              | 10, ho =>
                obtain rfl := Option.some.inj ho
                obtain ⟨_, h94, rfl⟩ := given_fed hg 94 (by decide +kernel)
                clear hg
                exact st_skip ho (wanted_not rfl rfl h94 (by decide)) ⟨_, rfl, Below.refl _ _, by rintro t' ⟨⟩; rfl⟩
              | 11, ho =>
                obtain rfl := Option.some.inj ho
                obtain ⟨_, h94, rfl⟩ := given_fed hg 94 (by decide +kernel)
                clear hg
                exact st_skip ho (wanted_not rfl rfl h94 (by decide)) ⟨_, rfl, Below.refl _ _, by rintro t' ⟨⟩; rfl⟩
              | 12, ho =>
                obtain rfl := Option.some.inj ho
                obtain ⟨_, h94, rfl⟩ := given_fed hg 94 (by decide +kernel)
                clear hg
                exact st_skip ho (wanted_not rfl rfl h94 (by decide)) ⟨_, rfl, Below.refl _ _, by rintro t' ⟨⟩; rfl⟩
              | 13, ho =>
                obtain rfl := Option.some.inj ho
                obtain ⟨_, h94, rfl⟩ := given_fed hg 94 (by decide +kernel)
                clear hg
                exact st_skip ho (wanted_not rfl rfl h94 (by decide)) ⟨_, rfl, Below.refl _ _, by rintro t' ⟨⟩; rfl⟩
              | 14, ho =>
                obtain rfl := Option.some.inj ho
                obtain ⟨_, h94, rfl⟩ := given_fed hg 94 (by decide +kernel)
                obtain ⟨_, h102, rfl⟩ := given_fed hg 102 (by decide +kernel)
                obtain ⟨_, h91, rfl⟩ := given_fed hg 91 (by decide +kernel)
                clear hg
                exact st_yield ho (wanted_some rfl rfl h91 rfl) (.bool false) w6 (by simp [execOp, Act.eval, h94, h102, go_sem]) ⟨_, rfl, Below.refl _ _, by rintro t' ⟨⟩; rfl⟩
              | 15, ho =>
                obtain rfl := Option.some.inj ho
                obtain ⟨_, h91, rfl⟩ := given_fed hg 91 (by decide +kernel)
                obtain ⟨_, h103, rfl⟩ := given_fed hg 103 (by decide +kernel)
                clear hg
                exact st_yield ho (wanted_none rfl) (.bool false) w6 (by simp [execOp, Act.eval, h91, h103, go_sem]) ⟨_, rfl, Below.refl _ _, by rintro t' ⟨⟩; rfl⟩
              | 16, ho =>
                obtain rfl := Option.some.inj ho
                obtain ⟨_, h104, rfl⟩ := given_fed hg 104 (by decide +kernel)
                clear hg
                exact st_yield ho (wanted_none rfl) (.bool false) w6 (by simp [execOp, Act.eval, h104, go_sem]) ⟨_, rfl, Below.refl _ _, by rintro t' ⟨⟩; rfl⟩
              | 17, ho =>
                obtain rfl := Option.some.inj ho
                have h16 := given_old hg 16 (by decide +kernel)
                obtain ⟨_, h105, rfl⟩ := given_fed hg 105 (by decide +kernel)
                clear hg
                exact st_yield ho (wanted_some rfl rfl h105 rfl) (.bool true) w6 (by simp [execOp, Act.eval, h16, go_sem]) ⟨_, rfl, Below.refl _ _, by rintro t' ⟨⟩; rfl⟩
              | 18, ho =>
                obtain rfl := Option.some.inj ho
                obtain ⟨_, h106, rfl⟩ := given_fed hg 106 (by decide +kernel)
                obtain ⟨_, h105, rfl⟩ := given_fed hg 105 (by decide +kernel)
                clear hg
                exact st_yield ho (wanted_some rfl rfl h105 rfl) (.bool true) w6 (by simp [execOp, Act.eval, h106, go_sem]) ⟨_, rfl, Below.refl _ _, by rintro t' ⟨⟩; rfl⟩
              | 19, ho =>
                obtain rfl := Option.some.inj ho
                have h7 := given_old hg 7 (by decide +kernel)
                obtain ⟨_, h107, rfl⟩ := given_fed hg 107 (by decide +kernel)
                clear hg
                exact st_yield ho (wanted_some rfl rfl h107 rfl) (.slice (some ⟨b, os, none⟩) m cq) w6 (by simp [execOp, Act.eval, h7, go_sem]) ⟨_, rfl, Below.refl _ _, by rintro t' ⟨⟩; rfl⟩
              | 20, ho =>
                obtain rfl := Option.some.inj ho
                have h12 := given_old hg 12 (by decide +kernel)
                obtain ⟨_, h107, rfl⟩ := given_fed hg 107 (by decide +kernel)
                clear hg
                exact st_yield ho (wanted_some rfl rfl h107 rfl) (.int .i64 (k : Int)) w6 (by simp [execOp, Act.eval, h12, go_sem]) ⟨_, rfl, Below.refl _ _, by rintro t' ⟨⟩; rfl⟩
              | 21, ho =>
                obtain rfl := Option.some.inj ho
                obtain ⟨_, h108, rfl⟩ := given_fed hg 108 (by decide +kernel)
                obtain ⟨_, h109, rfl⟩ := given_fed hg 109 (by decide +kernel)
                obtain ⟨_, h107, rfl⟩ := given_fed hg 107 (by decide +kernel)
                clear hg
                exact st_yield ho (wanted_some rfl rfl h107 rfl) (.pointer (some ⟨b, os + k * 4, none⟩)) w6 (by simp [execOp, Act.eval, h108, h109, go_sem, hix]) ⟨_, rfl, Below.refl _ _, by rintro t' ⟨⟩; rfl⟩
              | 22, ho =>
                obtain rfl := Option.some.inj ho
                obtain ⟨_, h110, rfl⟩ := given_fed hg 110 (by decide +kernel)
                obtain ⟨_, h107, rfl⟩ := given_fed hg 107 (by decide +kernel)
                clear hg
                exact st_yield ho (wanted_some rfl rfl h107 rfl) (.pointer (some ⟨b, os + k * 4, none⟩)) w6 (by simp [execOp, Act.eval, h110, go_sem]) ⟨_, rfl, Below.refl _ _, by rintro t' ⟨⟩; rfl⟩
              | 23, ho =>
                obtain rfl := Option.some.inj ho
                obtain ⟨_, h111, rfl⟩ := given_fed hg 111 (by decide +kernel)
                obtain ⟨_, h107, rfl⟩ := given_fed hg 107 (by decide +kernel)
                clear hg
                exact st_yield ho (wanted_some rfl rfl h107 rfl) (.string ky) w6 (by simp [execOp, Act.eval, h111, go_sem, d0]) ⟨_, rfl, Below.refl _ _, by rintro t' ⟨⟩; rfl⟩
              | 24, ho =>
                obtain rfl := Option.some.inj ho
                have h3 := given_old hg 3 (by decide +kernel)
                obtain ⟨_, h107, rfl⟩ := given_fed hg 107 (by decide +kernel)
                clear hg
                exact st_yield ho (wanted_some rfl rfl h107 rfl) (.pointer (some ⟨g3, 0, none⟩)) w6 (by simp [execOp, Act.eval, h3, go_sem]) ⟨_, rfl, Below.refl _ _, by rintro t' ⟨⟩; rfl⟩
              | 25, ho =>
                obtain rfl := Option.some.inj ho
                obtain ⟨_, h113, rfl⟩ := given_fed hg 113 (by decide +kernel)
                obtain ⟨_, h107, rfl⟩ := given_fed hg 107 (by decide +kernel)
                clear hg
                exact st_yield ho (wanted_some rfl rfl h107 rfl) (.string y1) w6 (by simp [execOp, Act.eval, h113, go_sem, x0]) ⟨_, rfl, Below.refl _ _, by rintro t' ⟨⟩; rfl⟩
              | 26, ho =>
                obtain rfl := Option.some.inj ho
                obtain ⟨_, h112, rfl⟩ := given_fed hg 112 (by decide +kernel)
                obtain ⟨_, h114, rfl⟩ := given_fed hg 114 (by decide +kernel)
                obtain ⟨_, h107, rfl⟩ := given_fed hg 107 (by decide +kernel)
                clear hg
                exact st_yield ho (wanted_some rfl rfl h107 rfl) (.bool true) w6 (by simp [execOp, Act.eval, h112, h114, go_sem, hkk.out]) ⟨_, rfl, Below.refl _ _, by rintro t' ⟨⟩; rfl⟩
              | 27, ho =>
                obtain rfl := Option.some.inj ho
                obtain ⟨_, h107, rfl⟩ := given_fed hg 107 (by decide +kernel)
                obtain ⟨_, h115, rfl⟩ := given_fed hg 115 (by decide +kernel)
                obtain ⟨_, h105, rfl⟩ := given_fed hg 105 (by decide +kernel)
                clear hg
                exact st_yield ho (wanted_some rfl rfl h105 rfl) (.bool true) w6 (by simp [execOp, Act.eval, h107, h115, go_sem]) ⟨_, rfl, Below.refl _ _, by rintro t' ⟨⟩; rfl⟩
              | 28, ho =>
                obtain rfl := Option.some.inj ho
                obtain ⟨_, h116, rfl⟩ := given_fed hg 116 (by decide +kernel)
                obtain ⟨_, h105, rfl⟩ := given_fed hg 105 (by decide +kernel)
                clear hg
                exact st_yield ho (wanted_some rfl rfl h105 rfl) (.bool true) w6 (by simp [execOp, Act.eval, h116, go_sem]) ⟨_, rfl, Below.refl _ _, by rintro t' ⟨⟩; rfl⟩
              | 29, ho =>
                obtain rfl := Option.some.inj ho
                have h15 := given_old hg 15 (by decide +kernel)
                obtain ⟨_, h117, rfl⟩ := given_fed hg 117 (by decide +kernel)
                clear hg
                exact st_yield ho (wanted_some rfl rfl h117 rfl) (.pointer (some ⟨g15, 0, none⟩)) w6 (by simp [execOp, Act.eval, h15, go_sem]) ⟨_, rfl, Below.refl _ _, by rintro t' ⟨⟩; rfl⟩
              | 30, ho =>
                obtain rfl := Option.some.inj ho
                obtain ⟨_, h118, rfl⟩ := given_fed hg 118 (by decide +kernel)
                obtain ⟨_, h117, rfl⟩ := given_fed hg 117 (by decide +kernel)
                clear hg
                exact st_yield ho (wanted_some rfl rfl h117 rfl) (.int .i64 ax) w6 (by simp [execOp, Act.eval, h118, go_sem, w0]) ⟨_, rfl, Below.refl _ _, by rintro t' ⟨⟩; rfl⟩
              | 31, ho =>
                obtain rfl := Option.some.inj ho
                have h13 := given_old hg 13 (by decide +kernel)
                obtain ⟨_, h117, rfl⟩ := given_fed hg 117 (by decide +kernel)
                clear hg
                exact st_yield ho (wanted_some rfl rfl h117 rfl) (.pointer (some ⟨g13, 0, none⟩)) w6 (by simp [execOp, Act.eval, h13, go_sem]) ⟨_, rfl, Below.refl _ _, by rintro t' ⟨⟩; rfl⟩
              | 32, ho =>
                obtain rfl := Option.some.inj ho
                obtain ⟨_, h120, rfl⟩ := given_fed hg 120 (by decide +kernel)
                obtain ⟨_, h117, rfl⟩ := given_fed hg 117 (by decide +kernel)
                clear hg
                exact st_yield ho (wanted_some rfl rfl h117 rfl) (.int .i64 ax) w6 (by simp [execOp, Act.eval, h120, go_sem, v0]) ⟨_, rfl, Below.refl _ _, by rintro t' ⟨⟩; rfl⟩
              | 33, ho =>
                obtain rfl := Option.some.inj ho
                obtain ⟨_, h119, rfl⟩ := given_fed hg 119 (by decide +kernel)
                obtain ⟨_, h121, rfl⟩ := given_fed hg 121 (by decide +kernel)
                obtain ⟨_, h117, rfl⟩ := given_fed hg 117 (by decide +kernel)
                clear hg
                exact st_yield ho (wanted_some rfl rfl h117 rfl) (.bool false) w6 (by simp [execOp, Act.eval, h119, h121, go_sem]) ⟨_, rfl, Below.refl _ _, by rintro t' ⟨⟩; rfl⟩
              | 34, ho =>
                obtain rfl := Option.some.inj ho
                obtain ⟨_, h122, rfl⟩ := given_fed hg 122 (by decide +kernel)
                obtain ⟨_, h117, rfl⟩ := given_fed hg 117 (by decide +kernel)
                clear hg
                exact st_yield ho (wanted_some rfl rfl h117 rfl) (.bool false) w6 (by simp [execOp, Act.eval, h122, go_sem]) ⟨_, rfl, Below.refl _ _, by rintro t' ⟨⟩; rfl⟩
              | 35, ho =>
                obtain rfl := Option.some.inj ho
                have h15 := given_old hg 15 (by decide +kernel)
                obtain ⟨_, h123, rfl⟩ := given_fed hg 123 (by decide +kernel)
                clear hg
                exact st_yield ho (wanted_some rfl rfl h123 rfl) (.pointer (some ⟨g15, 1, none⟩)) w6 (by simp [execOp, Act.eval, h15, go_sem]) ⟨_, rfl, Below.refl _ _, by rintro t' ⟨⟩; rfl⟩
              | 36, ho =>
                obtain rfl := Option.some.inj ho
                obtain ⟨_, h124, rfl⟩ := given_fed hg 124 (by decide +kernel)
                obtain ⟨_, h123, rfl⟩ := given_fed hg 123 (by decide +kernel)
                clear hg
                exact st_yield ho (wanted_some rfl rfl h123 rfl) (.int .i64 nx) w6 (by simp [execOp, Act.eval, h124, go_sem, w1]) ⟨_, rfl, Below.refl _ _, by rintro t' ⟨⟩; rfl⟩
              | 37, ho =>
                obtain rfl := Option.some.inj ho
                have h13 := given_old hg 13 (by decide +kernel)
                obtain ⟨_, h123, rfl⟩ := given_fed hg 123 (by decide +kernel)
                clear hg
                exact st_yield ho (wanted_some rfl rfl h123 rfl) (.pointer (some ⟨g13, 1, none⟩)) w6 (by simp [execOp, Act.eval, h13, go_sem]) ⟨_, rfl, Below.refl _ _, by rintro t' ⟨⟩; rfl⟩
              | 38, ho =>
                obtain rfl := Option.some.inj ho
                obtain ⟨_, h126, rfl⟩ := given_fed hg 126 (by decide +kernel)
                obtain ⟨_, h123, rfl⟩ := given_fed hg 123 (by decide +kernel)
                clear hg
                exact st_yield ho (wanted_some rfl rfl h123 rfl) (.int .i64 nx) w6 (by simp [execOp, Act.eval, h126, go_sem, v1]) ⟨_, rfl, Below.refl _ _, by rintro t' ⟨⟩; rfl⟩
              | 39, ho =>
                obtain rfl := Option.some.inj ho
                obtain ⟨_, h125, rfl⟩ := given_fed hg 125 (by decide +kernel)
                obtain ⟨_, h127, rfl⟩ := given_fed hg 127 (by decide +kernel)
                obtain ⟨_, h123, rfl⟩ := given_fed hg 123 (by decide +kernel)
                clear hg
                exact st_yield ho (wanted_some rfl rfl h123 rfl) (.bool false) w6 (by simp [execOp, Act.eval, h125, h127, go_sem]) ⟨_, rfl, Below.refl _ _, by rintro t' ⟨⟩; rfl⟩
              | 40, ho =>
                obtain rfl := Option.some.inj ho
                obtain ⟨_, h123, rfl⟩ := given_fed hg 123 (by decide +kernel)
                obtain ⟨_, h128, rfl⟩ := given_fed hg 128 (by decide +kernel)
                obtain ⟨_, h117, rfl⟩ := given_fed hg 117 (by decide +kernel)
                clear hg
                exact st_yield ho (wanted_some rfl rfl h117 rfl) (.bool false) w6 (by simp [execOp, Act.eval, h123, h128, go_sem]) ⟨_, rfl, Below.refl _ _, by rintro t' ⟨⟩; rfl⟩
              | 41, ho =>
                obtain rfl := Option.some.inj ho
                obtain ⟨_, h129, rfl⟩ := given_fed hg 129 (by decide +kernel)
                obtain ⟨_, h117, rfl⟩ := given_fed hg 117 (by decide +kernel)
                clear hg
                exact st_yield ho (wanted_some rfl rfl h117 rfl) (.bool false) w6 (by simp [execOp, Act.eval, h129, go_sem]) ⟨_, rfl, Below.refl _ _, by rintro t' ⟨⟩; rfl⟩
              | 42, ho =>
                obtain rfl := Option.some.inj ho
                have h15 := given_old hg 15 (by decide +kernel)
                obtain ⟨_, h130, rfl⟩ := given_fed hg 130 (by decide +kernel)
                clear hg
                exact st_yield ho (wanted_some rfl rfl h130 rfl) (.pointer (some ⟨g15, 2, none⟩)) w6 (by simp [execOp, Act.eval, h15, go_sem]) ⟨_, rfl, Below.refl _ _, by rintro t' ⟨⟩; rfl⟩
              | 43, ho =>
                obtain rfl := Option.some.inj ho
                obtain ⟨_, h131, rfl⟩ := given_fed hg 131 (by decide +kernel)
                obtain ⟨_, h130, rfl⟩ := given_fed hg 130 (by decide +kernel)
                clear hg
                exact st_yield ho (wanted_some rfl rfl h130 rfl) (.string sx) w6 (by simp [execOp, Act.eval, h131, go_sem, w2]) ⟨_, rfl, Below.refl _ _, by rintro t' ⟨⟩; rfl⟩
              | 44, ho =>
                obtain rfl := Option.some.inj ho
                have h13 := given_old hg 13 (by decide +kernel)
                obtain ⟨_, h130, rfl⟩ := given_fed hg 130 (by decide +kernel)
                clear hg
                exact st_yield ho (wanted_some rfl rfl h130 rfl) (.pointer (some ⟨g13, 2, none⟩)) w6 (by simp [execOp, Act.eval, h13, go_sem]) ⟨_, rfl, Below.refl _ _, by rintro t' ⟨⟩; rfl⟩
              | 45, ho =>
                obtain rfl := Option.some.inj ho
                obtain ⟨_, h133, rfl⟩ := given_fed hg 133 (by decide +kernel)
                obtain ⟨_, h130, rfl⟩ := given_fed hg 130 (by decide +kernel)
                clear hg
                exact st_yield ho (wanted_some rfl rfl h130 rfl) (.string sx) w6 (by simp [execOp, Act.eval, h133, go_sem, v2]) ⟨_, rfl, Below.refl _ _, by rintro t' ⟨⟩; rfl⟩
              | 46, ho =>
                obtain rfl := Option.some.inj ho
                obtain ⟨_, h132, rfl⟩ := given_fed hg 132 (by decide +kernel)
                obtain ⟨_, h134, rfl⟩ := given_fed hg 134 (by decide +kernel)
                obtain ⟨_, h130, rfl⟩ := given_fed hg 130 (by decide +kernel)
                clear hg
                exact st_yield ho (wanted_some rfl rfl h130 rfl) (.bool false) w6 (by simp [execOp, Act.eval, h132, h134, go_sem]) ⟨_, rfl, Below.refl _ _, by rintro t' ⟨⟩; rfl⟩
              | 47, ho =>
                obtain rfl := Option.some.inj ho
                obtain ⟨_, h130, rfl⟩ := given_fed hg 130 (by decide +kernel)
                obtain ⟨_, h135, rfl⟩ := given_fed hg 135 (by decide +kernel)
                obtain ⟨_, h117, rfl⟩ := given_fed hg 117 (by decide +kernel)
                clear hg
                exact st_yield ho (wanted_some rfl rfl h117 rfl) (.bool false) w6 (by simp [execOp, Act.eval, h130, h135, go_sem]) ⟨_, rfl, Below.refl _ _, by rintro t' ⟨⟩; rfl⟩
              | 48, ho =>
                obtain rfl := Option.some.inj ho
                obtain ⟨_, h117, rfl⟩ := given_fed hg 117 (by decide +kernel)
                obtain ⟨_, h136, rfl⟩ := given_fed hg 136 (by decide +kernel)
                obtain ⟨_, h105, rfl⟩ := given_fed hg 105 (by decide +kernel)
                clear hg
                exact st_yield ho (wanted_some rfl rfl h105 rfl) (.bool false) w6 (by simp [execOp, Act.eval, h117, h136, go_sem]) ⟨_, rfl, Below.refl _ _, by rintro t' ⟨⟩; rfl⟩
              | 49, ho =>
                obtain rfl := Option.some.inj ho
                obtain ⟨_, h105, rfl⟩ := given_fed hg 105 (by decide +kernel)
                obtain ⟨_, h137, rfl⟩ := given_fed hg 137 (by decide +kernel)
                clear hg
                exact st_yield ho (wanted_none rfl) (.bool false) w6 (by simp [execOp, Act.eval, h105, h137, go_sem]) ⟨_, rfl, Below.refl _ _, by rintro t' ⟨⟩; rfl⟩
              | n + 50, ho => simp at ho
            · intro f w8 hb8 hv
              have h138 := hv 138 (by decide)
              simp only [VOC] at h138
              have HF := Go.Lib.hid (HWW.out.trans (hb8.mono HWW.out.size))
              clear hv hb8 HX3 HKY HWW HXV HXW
              unfold putAll
              simp only [List.foldl]
              simp only [h138]
              clear h138
              go_simp
              go_wp2_with fail
              exact ⟨⟨k + 1, by omega, by go_num, HF⟩, by simp only [intOf]; omega⟩
        · obtain rfl : k = m := by omega
          have HF := Go.Lib.hid (HBB.out.trans ((HC.out.trans (HW.out.mono HC.out.size)).mono HBB.out.size))
          go_wp2_with fail
          go_ret
          exact ⟨rfl, HF.out⟩

/-! ### THE ROW -/
set_option maxRecDepth 100000 in
theorem lifted (os : Os) (started : os.Started) (H : Type) (enc : TypeId × Value → H) :
    ReturnsInHanded {} Try.checked os 8 .any (Rows.sortedOneSpec.pre6 enc Try.prog Try.f8 Rows.sortedOneRow.domain false) (Rows.sortedOneSpec.post enc Try.prog Try.f8 false true false false) := by
  refine returnsInHanded_of_change (C := Try.checked) own started (by kernel_rfl) Try.func8
    (ChangeSpec.witness6 (enc := enc) (C := Try.checked) false ⟨#[], #[.slice none 0 0, .agg #[.string ByteArray.empty, .bool false, .int .i64 0, .int .i64 0, .string ByteArray.empty]], []⟩ 8 (by kernel_rfl) (by kernel_rfl) (by kernel_rfl) (by kernel_rfl)) ?_
  intro W base args ds gs before hval0 hW hcnd _
  have hval : ∀ (j : Nat) t v, Try.f8.params[j]? = some t → args[j]? = some v → Value.okWide Try.prog W .any base t v := hval0
  have hW' := hW
  obtain ⟨p, q, hA0, hV, rfl, hfz, hnd⟩ := hW
  have hA : DataW.TrodAll enc Try.prog W 0 (fun _ => true) true Try.f8.params.toList args.toList ds p := hA0
  rw [Try.params8] at hA hval
  obtain ⟨v0, vs0, d0, ds0, p0, q0, hargs, rfl, rfl, h0, r0⟩ := trodAll_cons hA
  obtain ⟨v1, vs1, d1, ds1, p1, q1, rfl, rfl, rfl, h1, r1⟩ := trodAll_cons r0
  obtain ⟨rfl, rfl, rfl⟩ := trodAll_nil r1
  obtain rfl : args = #[v0, v1] := by cases args; simp_all
  obtain ⟨rfl, rfl⟩ := trodVars_none hV
  have kk0 := h0
  have lt0 : ∀ x ∈ p0, x.block < W.heap.size := by obtain ⟨m, hm⟩ := kk0; exact DataW.trod_lt m _ _ _ hm
  have kk1 := h1
  have lt1 : ∀ x ∈ p1, x.block < W.heap.size := by obtain ⟨m, hm⟩ := kk1; exact DataW.trod_lt m _ _ _ hm
  obtain ⟨a0, len0, cap0, rfl⟩ := okWide_slice Try.underlying22 (hval 0 22 v0 rfl rfl)
  obtain ⟨l0, w0⟩ := open_recs h0
  obtain ⟨y1, g1, k1, n1, s1, rfl, w1⟩ := open_rec (hval 1 39 v1 rfl rfl) h1
  clear hA0 hval0
  refine (walk W a0 len0 cap0 l0 w0 y1 g1 k1 n1 s1 w1).mono fun e W' ⟨he, bel⟩ => ?_
  subst he
  exact ⟨_, rfl, _, _, _, [], _, [], hW', trodAll_mk1 (shut_bool Try.underlying4 _), (trodAll_cons_mk (Below.trod laidOut (by kernel_rfl) (of_decide_eq_true (by kernel_rfl)) kk0 bel lt0) (trodAll_cons_mk (Below.trod laidOut (by kernel_rfl) (of_decide_eq_true (by kernel_rfl)) kk1 bel lt1) trodAll_mk0)), rfl, bel.frame _, fun h => by cases h⟩

theorem over : Rows.sortedOneRow.holds Try.pinned (OpenSpec.ofChange Rows.sortedOneSpec) :=
  OpenClaim.holds_of_wide 8 Try.f8 rfl rfl rfl rfl rfl rfl rfl ⟨rfl, rfl, rfl, rfl, rfl⟩ rfl rfl rfl rfl rfl (by kernel_rfl) Try.func8 (by kernel_rfl)
    (of_decide_eq_true (by kernel_rfl)) (by unfold Func.isWrapper; first | (rw [if_pos (by decide +kernel)]; kernel_rfl) | (rw [if_neg (by decide +kernel)]; exact ⟨rfl, rfl⟩))
    (fun os started H enc _ => lifted os started H enc)

theorem proved : Rows.SortedOneSaid := over
#print axioms proved
end Go.Proofs.Ytibbligidncocaa.sortedOne
