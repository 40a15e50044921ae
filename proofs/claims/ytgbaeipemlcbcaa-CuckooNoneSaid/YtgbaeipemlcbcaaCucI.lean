/-
  Stage 17: the laws' lies.
-/
import Derived.Test.YtgbaeipemlcbcaaCucE
import Derived.Test.YtgbaeipemlcbcaaCuc
import Derived.Test.YtgbaeipemlcbcaaHead
namespace Go.Proofs.Ytgbaeipemlcbcaa
open Go.RowKit

theorem below_to {B : Nat} {w w1 w2 : World} (h : Below B w w1) (hB : B ≤ w.heap.size) (h2 : Below w1.heap.size w1 w2) : Below B w w2 := h.trans (h2.mono (Nat.le_trans hB h.size))
/-- The slots from q on. -/
def slF (T : SlT) (q : Nat) : List (Nat × Nat × Int) := ((List.range (32 - q)).map fun k => q + k).filterMap fun k => (T k).map fun x => (k / 4, x.1, x.2)
theorem slF_zero (T : SlT) : slF T 0 = slL T := by
  unfold slF slL
  congr 1
theorem slF_end (T : SlT) : slF T 32 = [] := rfl
theorem slF_step (T : SlT) {q : Nat} (h : q < 32) : slF T q = ((T q).map fun x => (q / 4, x.1, x.2)).toList ++ slF T (q + 1) := by
  unfold slF
  rw [show 32 - q = (32 - (q + 1)) + 1 by omega, List.range_succ_eq_map, List.map_cons, List.filterMap_cons, List.map_map]
  have e : ((fun k => q + k) ∘ Nat.succ) = fun k => q + 1 + k := by funext k; simp only [Function.comp]; omega
  rw [e, Nat.add_zero]
  cases T q <;> rfl
def LeftOk (T : SlT) (q : Nat) (L : List EnT) : Prop := ((slF T q).map keyS).Perm (L.map keyE)
theorem LeftOk.skip {T : SlT} {q : Nat} {L : List EnT} (h : LeftOk T q L) (hq : q < 32) (he : T q = none) : LeftOk T (q + 1) L := by
  unfold LeftOk at *
  rw [slF_step T hq, he] at h
  simpa using h
theorem LeftOk.some {T : SlT} {q : Nat} {L : List EnT} (h : LeftOk T q L) (hq : q < 32) {t : Nat} {i : Int} (he : T q = some (t, i)) : ∃ r, ∃ hr : r < L.length, keyE L[r] = (keyN (q / 4) t, i) := by
  unfold LeftOk at h
  rw [slF_step T hq, he] at h
  have : (keyN (q / 4) t, i) ∈ L.map keyE := h.mem_iff.1 (by simp [keyS])
  obtain ⟨e, he1, he2⟩ := List.mem_map.1 this
  obtain ⟨r, hr, rfl⟩ := List.mem_iff_getElem.1 he1
  exact ⟨r, hr, he2⟩
theorem LeftOk.take {T : SlT} {q : Nat} {L : List EnT} (h : LeftOk T q L) (hq : q < 32) {t : Nat} {i : Int} (he : T q = Option.some (t, i)) {r : Nat} (hr : r < L.length) (hk : keyE L[r] = (keyN (q / 4) t, i)) : LeftOk T (q + 1) (L.take r ++ L.drop (r + 1)) := by
  unfold LeftOk at *
  rw [slF_step T hq, he] at h
  rw [← List.eraseIdx_eq_take_drop_succ]
  have h2 := h.trans ((erase_perm L r hr).map keyE)
  rw [List.map_cons, hk] at h2
  simp only [Option.map_some, Option.toList_some, List.singleton_append, List.map_cons] at h2
  exact List.Perm.cons_inv h2
theorem LeftOk.done {T : SlT} {L : List EnT} (h : LeftOk T 32 L) : L = [] := by
  unfold LeftOk at h
  rw [slF_end] at h
  have := h.length_eq
  exact List.eq_nil_of_length_eq_zero (by simpa using this.symm)
/-- Which of those left is the one of the slot. -/
def FoundAt (L : List EnT) (K : (Nat × Nat) × Int) (j : Nat) (sm : Int) : Prop :=
  (sm = -1 ∧ ∀ r (hr : r < L.length), r < j → keyE L[r] ≠ K) ∨ ∃ r, ∃ hr : r < L.length, r < j ∧ sm = (r : Int) ∧ keyE L[r] = K
theorem FoundAt.no {L : List EnT} {K : (Nat × Nat) × Int} {j : Nat} {sm : Int} (h : FoundAt L K j sm) (hj : j < L.length) (hk : keyE L[j] ≠ K) : FoundAt L K (j + 1) sm := by
  rcases h with ⟨h1, h2⟩ | ⟨r, hr, h1, h2, h3⟩
  · refine .inl ⟨h1, fun r hr hlt => ?_⟩
    rcases Nat.lt_or_ge r j with h | h
    · exact h2 r hr h
    · obtain rfl : r = j := by omega
      exact hk
  · exact .inr ⟨r, hr, by omega, h2, h3⟩
theorem FoundAt.yes {L : List EnT} {K : (Nat × Nat) × Int} {j : Nat} (hj : j < L.length) (hk : keyE L[j] = K) : FoundAt L K (j + 1) (j : Int) := .inr ⟨j, hj, by omega, rfl, hk⟩
theorem key_slot {e : EnT} {b t : Nat} {i : Int} (hb : b < 8) : keyE e = (keyN b t, i) ↔ e.2 = i ∧ tagN e.1 = t ∧ (b = firstN e.1 ∨ b = othN (firstN e.1) t) := by
  unfold keyE keyH
  rw [Prod.mk.injEq, keyN_iff (first_lt e.1) hb]
  have hf := first_lt e.1
  constructor
  · rintro ⟨⟨h1, h2⟩, h3⟩
    refine ⟨h3, h1, ?_⟩
    rcases h2 with h2 | h2
    · exact .inl h2.symm
    · exact .inr (by rw [h2, oth_oth t hb])
  · rintro ⟨h3, h1, h2⟩
    refine ⟨⟨h1, ?_⟩, h3⟩
    rcases h2 with h2 | h2
    · exact .inl h2.symm
    · exact .inr (by rw [h2, oth_oth t hf])
def VLi (al : Option Addr) (n cl r r2 : Nat) (av : Option Addr) (v97 : Value) (La Lb : List EnT) : Nat → World → Value → Prop
  | 5, w, v => KE.R w v (La ++ Lb)
  | 90, _, v => v = .slice al n cl
  | 91, _, v => v = .int .i64 (r : Int)
  | 92, _, v => v = .int .i64 (r : Int)
  | 93, _, v => v = .slice av r r
  | 94, _, v => v = .slice al n cl
  | 95, _, v => v = .int .i64 (r : Int)
  | 96, _, v => v = .int .i64 (r2 : Int)
  | 97, _, v => v = v97
  | 98, w, v => KE.R w v (La ++ Lb)
  | _, _, _ => True

theorem VLi_below (al : Option Addr) (n cl r r2 : Nat) (av : Option Addr) (v97 : Value) (La Lb : List EnT) : ∀ (i : Nat) (w w' : World) (v : Value), VLi al n cl r r2 av v97 La Lb i w v → Below w.heap.size w w' → VLi al n cl r r2 av v97 La Lb i w' v := by
  intro i w w' v h hb
  unfold VLi at h ⊢
  split at h <;> first | exact h | trivial | exact RB.below h hb | exact Own.below h hb | exact OwnV.below h hb | exact OwnRec.below h hb | exact Lay.R.below h hb

set_option maxHeartbeats 4000000 in
set_option maxRecDepth 100000 in
theorem lies_c (d : Nat) (T : SlT) (v : Value) (l : List EnT) (w : World) (hd : CK w d T) (hv : KE.R w v l) (hf : Fits T l) (hlt : ∀ e ∈ l, e.1 < 18446744073709551616) (hlen : l.length ≤ 1000) :
    Calls Try.prog 16 #[.pointer (some ⟨d, 0, none⟩), v] w fun e w' => e = .returned (.bool true) ∧ Below w.heap.size w w' := by
  obtain ⟨a, cap, rfl, hm⟩ := hv.form
  have HD := Go.Lib.hid fun W (hW : Below w.heap.size w W) => hd.same (hW.block d (by obtain ⟨cs, fr, h⟩ := hd.row; exact (Array.getElem?_eq_some_iff.1 h).1))
  have HTK := Go.Lib.hid hd.tok
  have HLN := Go.Lib.hid hf.length
  have HV := Go.Lib.hid hv
  have HLO := Go.Lib.hid (show LeftOk T 0 l by unfold LeftOk; rw [slF_zero]; exact hf)
  have HLT := Go.Lib.hid hlt
  clear hd hv hf hlt
  go_enter Try.func16, Try.ntmps16
  go_wp2_with (first
    | ((with_reducible show wpList _ _ _ (⟨some 21, _, _, _, _, _⟩ :: _) _ _); go_loud (refine KE_ok.append rfl (.const (.slice none 0 0)) (.tmp 20) rfl w.heap.size (.slice none 0 0) (.slice a l.length cap) [] l rfl rfl (Lay.O.nil _ _) HV.out (by simp; omega) (Nat.le_refl _) ?_); intro v2 w2 hown2 hg2; have HB2 := Go.Lib.hid ((Below.refl w.heap.size w).grown hg2 (Nat.le_refl _) (by simp [Value.ownBlock])); have HR2 := Go.Lib.hid hown2.r; clear hown2 hg2)
    | fail)
  rw [List.nil_append] at HR2
  go_loopw [5, 6] (fun uv bv wr => ∃ (b : Nat) (u : Value) (L : List EnT), u = uv ∧ b ≤ 8 ∧ bv = .int .i64 (b : Int) ∧ KE.R wr u L ∧ Hid (LeftOk T (4 * b) L ∧ (∀ e ∈ L, e.1 < 18446744073709551616) ∧ L.length ≤ 1000) ∧ Below w.heap.size w wr) (fun _ bv _ => 8 - (intOf bv).toNat)
  case atStart => exact ⟨0, _, l, rfl, by omega, rfl, HR2.out, Go.Lib.hid ⟨HLO.out, HLT.out, hlen⟩, HB2.out⟩
  case round =>
    obtain ⟨b, u, L0, rfl, hb, rfl, hu, hL, hbc⟩ := hrel
    by_cases hb8 : b < 8
    · have hbI : (b : Int) < 8 := by omega
      have HU0 := Go.Lib.hid hu
      have HB0 := Go.Lib.hid hbc
      clear hu hbc
      go_wp2_with fail
      go_loopw [5, 7] (fun uv sv wr => ∃ (s : Nat) (u : Value) (L : List EnT), u = uv ∧ s ≤ 4 ∧ sv = .int .i64 (s : Int) ∧ KE.R wr u L ∧ Hid (LeftOk T (4 * b + s) L ∧ (∀ e ∈ L, e.1 < 18446744073709551616) ∧ L.length ≤ 1000) ∧ Below w.heap.size w wr) (fun _ sv _ => 4 - (intOf sv).toNat)
      case atStart => exact ⟨0, _, L0, rfl, by omega, rfl, HU0.out, hL, HB0.out⟩
      case round =>
        obtain ⟨s, u, L, rfl, hs, rfl, hu, hL2, hbc⟩ := hrel
        by_cases hs4 : s < 4
        · have hsI : (s : Int) < 4 := by omega
          have hq : 4 * b + s < 32 := by omega
          have hq4 : (4 * b + s) / 4 = b := by omega
          cases hT : T (4 * b + s) with
          | none =>
            have CA := Go.Lib.hid (cat_none (HD.out wr hbc) hb8 hs4 hT)
            have HL3 := Go.Lib.hid (show LeftOk T (4 * b + (s + 1)) L from hL2.out.1.skip hq hT)
            have HL4 := Go.Lib.hid hL2.out.2
            have HU := Go.Lib.hid hu
            have HB := Go.Lib.hid hbc
            clear hT hL2 hu hbc
            go_wp2_with fail
            refine CA.out.mono ?_
            rintro e w3 ⟨rfl, hc⟩
            have HU := Go.Lib.hid (HU.out.below hc)
            have HB := Go.Lib.hid (below_to HB.out (Nat.le_refl _) hc)
            clear hc CA
            go_wp2_with fail
            go_roundw
            case rel => exact ⟨s + 1, _, L, rfl, by omega, by go_num, HU.out, Go.Lib.hid ⟨HL3.out, HL4.out⟩, HB.out⟩
            case measure => simp only [intOf]; omega
          | some y =>
            obtain ⟨t, i⟩ := y
            have htl := (HTK.out _ _ hT).2
            have htl : t < 32768 := htl
            have CA := Go.Lib.hid (cat_some (HD.out wr hbc) hb8 hs4 hT)
            obtain ⟨r0, hr0, hk0⟩ := hL2.out.1.some hq hT
            rw [hq4] at hk0
            have HTK2 := Go.Lib.hid (fun (r : Nat) (hr : r < L.length) (hk : keyE L[r] = (keyN b t, i)) => show LeftOk T (4 * b + (s + 1)) (L.take r ++ L.drop (r + 1)) from hL2.out.1.take hq hT hr (by rw [hq4]; exact hk))
            have HK0 := Go.Lib.hid (show ∃ r, ∃ hr : r < L.length, keyE L[r] = (keyN b t, i) from ⟨r0, hr0, hk0⟩)
            have HL4 := Go.Lib.hid hL2.out.2
            have HU := Go.Lib.hid hu
            have HB := Go.Lib.hid hbc
            clear hT hL2 hu hbc hk0
            go_wp2_with fail
            refine CA.out.mono ?_
            rintro e w3 ⟨rfl, hc⟩
            have HU := Go.Lib.hid (HU.out.below hc)
            have HB := Go.Lib.hid (below_to HB.out (Nat.le_refl _) hc)
            clear hc CA
            obtain ⟨al, cl, rfl, hlm⟩ := HU.out.form
            go_wp2_with fail
            go_loop [11, 12] (fun smv jv => ∃ (j : Nat) (sm : Int), j ≤ L.length ∧ jv = .int .i64 (j : Int) ∧ smv = .int .i64 sm ∧ Hid (FoundAt L (keyN b t, i) j sm)) (fun _ jv => L.length - (intOf jv).toNat)
            case atStart => exact ⟨0, -1, by omega, rfl, rfl, Go.Lib.hid (.inl ⟨rfl, fun r hr h => by omega⟩)⟩
            case round =>
              obtain ⟨j, sm, hj, rfl, rfl, hfound⟩ := hrel
              by_cases hjl : j < L.length
              · obtain ⟨p, o, rfl, -, hps, c0, c1⟩ := KE.at' HU.out j hjl
                have hix := idxE' p o L.length cl j hjl
                have hx := HL4.out.1 L[j] (List.getElem_mem hjl)
                have HNO := Go.Lib.hid (fun h => hfound.out.no hjl h)
                have HYES := Go.Lib.hid (fun h => FoundAt.yes (K := (keyN b t, i)) hjl h)
                have HKS := Go.Lib.hid (key_slot (e := L[j]) (t := t) (i := i) hb8)
                have FA := Go.Lib.hid fun W => rfirst_c L[j].1 W hx
                have TA := Go.Lib.hid fun W => rtag_c L[j].1 W hx
                have OA := Go.Lib.hid fun W => rother_c (firstN L[j].1 : Int) (t : Int) W
                rw [otherI_nat (first_lt _) htl] at OA
                generalize hee : L[j] = ee at *
                obtain ⟨hh, ii⟩ := ee
                simp only [] at c0 c1 hx
                have hfl : firstN hh < 8 := first_lt hh
                generalize keyE (hh, ii) = ke at *
                simp only [] at HKS FA TA OA
                generalize othN (firstN hh) t = oo at *
                generalize firstN hh = ff at *
                generalize tagN hh = tt at *
                have Hjl := Go.Lib.hid hjl
                clear hee hx hjl hfound
                by_cases e1 : ii = i
                · have b1 : (ii == i) = true := by simp [e1]
                  by_cases e2 : tt = t
                  · have b2 : ((tt : Int) == (t : Int)) = true := by simp [e2]
                    by_cases e3 : b = ff
                    · have b3 : ((b : Int) == (ff : Int)) = true := by simp [e3]
                      have K := Go.Lib.hid (HYES.out (HKS.out.2 ⟨e1, e2, .inl e3⟩))
                      clear e1 e2 e3 HNO HYES HKS
                      go_wp2_with fail
                      refine (FA.out _).mono ?_
                      rintro e w4 ⟨rfl, rfl⟩
                      go_wp2_with fail
                      refine (TA.out _).mono ?_
                      rintro e w4 ⟨rfl, rfl⟩
                      go_wp2_with fail
                      go_round
                      case rel => exact ⟨j + 1, j, by have := Hjl.out; omega, by go_num, rfl, K⟩
                      case measure => simp only [intOf]; have := Hjl.out; omega
                    · have b3 : ((b : Int) == (ff : Int)) = false := by simp only [beq_eq_false_iff_ne, ne_eq]; omega
                      by_cases e4 : b = oo
                      · have b4 : ((b : Int) == (oo : Int)) = true := by simp [e4]
                        have K := Go.Lib.hid (HYES.out (HKS.out.2 ⟨e1, e2, .inr e4⟩))
                        clear e1 e2 e3 e4 HNO HYES HKS
                        go_wp2_with fail
                        refine (FA.out _).mono ?_
                        rintro e w4 ⟨rfl, rfl⟩
                        go_wp2_with fail
                        refine (TA.out _).mono ?_
                        rintro e w4 ⟨rfl, rfl⟩
                        go_wp2_with fail
                        refine (OA.out _).mono ?_
                        rintro e w4 ⟨rfl, rfl⟩
                        go_wp2_with fail
                        go_round
                        case rel => exact ⟨j + 1, j, by have := Hjl.out; omega, by go_num, rfl, K⟩
                        case measure => simp only [intOf]; have := Hjl.out; omega
                      · have b4 : ((b : Int) == (oo : Int)) = false := by simp only [beq_eq_false_iff_ne, ne_eq]; omega
                        have K := Go.Lib.hid (HNO.out (fun h => by
                          rcases (HKS.out.1 h).2.2 with h | h
                          · exact e3 h
                          · exact e4 h))
                        clear e1 e2 e3 e4 HNO HYES HKS
                        go_wp2_with fail
                        refine (FA.out _).mono ?_
                        rintro e w4 ⟨rfl, rfl⟩
                        go_wp2_with fail
                        refine (TA.out _).mono ?_
                        rintro e w4 ⟨rfl, rfl⟩
                        go_wp2_with fail
                        refine (OA.out _).mono ?_
                        rintro e w4 ⟨rfl, rfl⟩
                        go_wp2_with fail
                        go_round
                        case rel => exact ⟨j + 1, sm, by have := Hjl.out; omega, by go_num, rfl, K⟩
                        case measure => simp only [intOf]; have := Hjl.out; omega
                  · have b2 : ((tt : Int) == (t : Int)) = false := by simp only [beq_eq_false_iff_ne, ne_eq]; omega
                    have K := Go.Lib.hid (HNO.out (fun h => e2 (HKS.out.1 h).2.1))
                    clear e1 e2 HNO HYES HKS
                    go_wp2_with fail
                    refine (FA.out _).mono ?_
                    rintro e w4 ⟨rfl, rfl⟩
                    go_wp2_with fail
                    refine (TA.out _).mono ?_
                    rintro e w4 ⟨rfl, rfl⟩
                    go_wp2_with fail
                    go_round
                    case rel => exact ⟨j + 1, sm, by have := Hjl.out; omega, by go_num, rfl, K⟩
                    case measure => simp only [intOf]; have := Hjl.out; omega
                · have b1 : (ii == i) = false := by simp [e1]
                  have K := Go.Lib.hid (HNO.out (fun h => e1 (HKS.out.1 h).1))
                  clear e1 HNO HYES HKS
                  go_wp2_with fail
                  refine (FA.out _).mono ?_
                  rintro e w4 ⟨rfl, rfl⟩
                  go_wp2_with fail
                  go_round
                  case rel => exact ⟨j + 1, sm, by have := Hjl.out; omega, by go_num, rfl, K⟩
                  case measure => simp only [intOf]; have := Hjl.out; omega
              · obtain rfl : j = L.length := by omega
                obtain ⟨r, hr, hsm, hkr⟩ : ∃ r, ∃ hr : r < L.length, sm = (r : Int) ∧ keyE L[r] = (keyN b t, i) := by
                  rcases hfound.out with ⟨h1, h2⟩ | ⟨r, hr, -, h2, h3⟩
                  · obtain ⟨r, hr, hk⟩ := HK0.out
                    exact absurd hk (h2 r hr hr)
                  · exact ⟨r, hr, h2, h3⟩
                subst hsm
                have HLO2 := Go.Lib.hid (HTK2.out r hr hkr)
                have hrm : ¬ (r : Int) < 0 := by omega
                have hLm := HL4.out.2
                obtain ⟨av, hav⟩ : ∃ av, sliced al 0 r r 2 = .slice av r r := ⟨_, rfl⟩
                have hcl := HU.out.len.2.1
                have HS1 := Go.Lib.hid (fun W => show (Instr.slice 26 (.slice al L.length cl) none (some (.int .i64 (r : Int))) (some (.int .i64 (r : Int)))).run Try.prog W = .ok (.slice av r r) W from (KE_ok.run_hm al L.length cl r r (Nat.le_refl _) (by omega) .i64 .i64 W).trans (by rw [show KE.size = 2 from rfl, hav]))
                obtain ⟨r2, hr2⟩ : ∃ r2, r2 = r + 1 := ⟨_, rfl⟩
                rw [← hr2] at HLO2
                have HS2 := Go.Lib.hid (fun W => show (Instr.slice 26 (.slice al L.length cl) (some (.int .i64 (r2 : Int))) none none).run Try.prog W = .ok (sliced al r2 L.length cl KE.size) W from KE_ok.run_l al L.length cl r2 (by omega) .i64 W)
                have HT1 := Go.Lib.hid (fun W (h : KE.R W (.slice al L.length cl) L) => show KE.R W (.slice av r r) (L.take r) from by
                  have := h.cut KE_ok 0 r r (Nat.zero_le _) (Nat.le_of_lt hr) (Nat.le_refl _) (by omega)
                  rw [show KE.size = 2 from rfl, hav] at this
                  exact this)
                have HT2 := Go.Lib.hid (fun W (h : KE.R W (.slice al L.length cl) L) => show KE.R W (sliced al r2 L.length cl KE.size) (L.drop r2) from by
                  have := h.cut KE_ok r2 L.length cl (by omega) (Nat.le_refl _) hcl (Nat.le_refl _)
                  rw [List.take_length] at this
                  exact this)
                generalize sliced al r2 L.length cl KE.size = v97 at *
                have HLL := Go.Lib.hid (show (L.take r).length + (L.drop r2).length ≤ 1000000 by rw [List.length_take, List.length_drop]; omega)
                have HEL := Go.Lib.hid (show (∀ e ∈ L.take r ++ L.drop r2, e.1 < 18446744073709551616) ∧ (L.take r ++ L.drop r2).length ≤ 1000 from ⟨fun e he => by
                  rcases List.mem_append.1 he with h | h
                  · exact HL4.out.1 e (List.mem_of_mem_take h)
                  · exact HL4.out.1 e (List.mem_of_mem_drop h), by rw [List.length_append, List.length_take, List.length_drop]; omega⟩)
                generalize L.take r = La at *
                generalize L.drop r2 = Lb at *
                have HADD := Go.Lib.hid (show IntKind.i64.wrap ((r : Int) + 1) = (r2 : Int) by rw [IntKind.wrap_i64]; omega)
                have HADD2 := Go.Lib.hid (show wrap64 ((r : Int) + 1) = (r2 : Int) by unfold wrap64; omega)
                have hr1 : r ≤ 1000 := by omega
                clear hkr HTK2 HK0 hfound hav hr0 hr hr2
                go_wp2_with fail
                go_upto_region 21 with (fail)
                refine wp_region_each (by kernel_rfl) (VLi al L.length cl r r2 av v97 La Lb) (VLi_below al L.length cl r r2 av v97 La Lb) (by decide +kernel) (by decide +kernel) (by rfl) [90, 91, 92, 93, 94, 95, 96, 97, 98, 5] (by rfl) ?_ ?_
                · intro i o ho a w6 hb6 hlen hg
                  have hs1 := fun W => HS1.out W
                  have hs2 := fun W => HS2.out W
                  have hadd := HADD.out
                  have hadd2 := HADD2.out
                  match i, ho with
                  | 0, ho =>
                    obtain rfl := Option.some.inj ho
                    have h5 := given_old hg 5 (by decide +kernel)
                    clear hg
                    exact st_yield ho (wanted_none rfl) (.slice al L.length cl) w6 (by simp [execOp, Act.eval, h5, go_sem]) ⟨_, rfl, Below.refl _ _, by rintro t' ⟨⟩; rfl⟩
                  | 1, ho =>
                    obtain rfl := Option.some.inj ho
                    have h11 := given_old hg 11 (by decide +kernel)
                    clear hg
                    exact st_yield ho (wanted_none rfl) (.int .i64 (r : Int)) w6 (by simp [execOp, Act.eval, h11, go_sem]) ⟨_, rfl, Below.refl _ _, by rintro t' ⟨⟩; rfl⟩
                  | 2, ho =>
                    obtain rfl := Option.some.inj ho
                    have h11 := given_old hg 11 (by decide +kernel)
                    clear hg
                    exact st_yield ho (wanted_none rfl) (.int .i64 (r : Int)) w6 (by simp [execOp, Act.eval, h11, go_sem]) ⟨_, rfl, Below.refl _ _, by rintro t' ⟨⟩; rfl⟩
                  | 3, ho =>
                    obtain rfl := Option.some.inj ho
                    obtain ⟨_, h90, rfl⟩ := given_fed hg 90 (by decide +kernel)
                    obtain ⟨_, h91, rfl⟩ := given_fed hg 91 (by decide +kernel)
                    obtain ⟨_, h92, rfl⟩ := given_fed hg 92 (by decide +kernel)
                    clear hg
                    exact st_yield ho (wanted_none rfl) (.slice av r r) w6 (by simp [execOp, Act.eval, h90, h91, h92, go_sem, hs1]) ⟨_, rfl, Below.refl _ _, by rintro t' ⟨⟩; rfl⟩
                  | 4, ho =>
                    obtain rfl := Option.some.inj ho
                    have h5 := given_old hg 5 (by decide +kernel)
                    clear hg
                    exact st_yield ho (wanted_none rfl) (.slice al L.length cl) w6 (by simp [execOp, Act.eval, h5, go_sem]) ⟨_, rfl, Below.refl _ _, by rintro t' ⟨⟩; rfl⟩
                  | 5, ho =>
                    obtain rfl := Option.some.inj ho
                    have h11 := given_old hg 11 (by decide +kernel)
                    clear hg
                    exact st_yield ho (wanted_none rfl) (.int .i64 (r : Int)) w6 (by simp [execOp, Act.eval, h11, go_sem]) ⟨_, rfl, Below.refl _ _, by rintro t' ⟨⟩; rfl⟩
                  | 6, ho =>
                    obtain rfl := Option.some.inj ho
                    obtain ⟨_, h95, rfl⟩ := given_fed hg 95 (by decide +kernel)
                    clear hg
                    exact st_yield ho (wanted_none rfl) (.int .i64 (r2 : Int)) w6 (by simp [execOp, Act.eval, h95, go_sem, hadd]) ⟨_, rfl, Below.refl _ _, by rintro t' ⟨⟩; rfl⟩
                  | 7, ho =>
                    obtain rfl := Option.some.inj ho
                    obtain ⟨_, h94, rfl⟩ := given_fed hg 94 (by decide +kernel)
                    obtain ⟨_, h96, rfl⟩ := given_fed hg 96 (by decide +kernel)
                    clear hg
                    exact st_yield ho (wanted_none rfl) (v97) w6 (by simp [execOp, Act.eval, h94, h96, go_sem, hs2]) ⟨_, rfl, Below.refl _ _, by rintro t' ⟨⟩; rfl⟩
                  | 8, ho =>
                    obtain rfl := Option.some.inj ho
                    obtain ⟨_, h93, rfl⟩ := given_fed hg 93 (by decide +kernel)
                    obtain ⟨v97', h97, p97⟩ := given_fed hg 97 (by decide +kernel)
                    have p97 : v97' = v97 := p97
                    rw [p97] at h97
                    clear hg
                    exact st_list ho (wanted_none rfl) fun Q' hQ => KE_ok.appendR rfl (.tmp 93) (.tmp 97) rfl av v97 La Lb r (by simp [Act.eval, h93]) (by simp [Act.eval, h97]) (HT1.out _ (HU.out.below hb6)) (HT2.out _ (HU.out.below hb6)) HLL.out (fun v' w' hr _ hg => wpList_nil (hQ _ _ ⟨v', rfl, grown_below hg (Nat.le_refl _) (by simp), by rintro t' ⟨⟩; exact hr⟩))
                  | 9, ho =>
                    obtain rfl := Option.some.inj ho
                    obtain ⟨v98, h98, p98⟩ := given_fed hg 98 (by decide +kernel)
                    clear hg
                    exact st_yield ho (wanted_none rfl) v98 w6 (by simp [execOp, Act.eval, h98, go_sem]) ⟨_, rfl, Below.refl _ _, by rintro t' ⟨⟩; exact p98⟩
                  | n + 10, ho => simp at ho
                · intro f w6 hb6 hv
                  have h5 := hv 5 (by decide)
                  simp only [VLi] at h5
                  have HB := Go.Lib.hid (below_to HB.out (Nat.le_refl _) hb6)
                  have HU5 := Go.Lib.hid h5
                  clear hv hb6 h5
                  unfold putAll
                  simp only [List.foldl]
                  generalize f 5 = u5 at *
                  go_simp
                  go_wp2_with fail
                  go_roundw
                  case rel => exact ⟨s + 1, _, La ++ Lb, rfl, by omega, by go_num, HU5.out, Go.Lib.hid ⟨HLO2.out, HEL.out⟩, HB.out⟩
                  case measure => simp only [intOf]; omega
        · obtain rfl : s = 4 := by omega
          have HU := Go.Lib.hid hu
          have HB := Go.Lib.hid hbc
          clear hu hbc hs4
          go_wp2_with fail
          go_roundw
          case rel => exact ⟨b + 1, _, L, rfl, by omega, by go_num, HU.out, hL2, HB.out⟩
          case measure => simp only [intOf]; omega
    · obtain rfl : b = 8 := by omega
      have hnil := hL.out.1.done
      subst hnil
      obtain ⟨al, cl, rfl, -⟩ := hu.form
      have CA := Go.Lib.hid (fun W (hW : Below w.heap.size w W) => cat_out (HD.out W hW) (b := 8) (s := 0) (by omega) (by omega))
      have CB := Go.Lib.hid (fun W (hW : Below w.heap.size w W) => cat_out (HD.out W hW) (b := 0) (s := 4) (by omega) (by omega))
      have CL := Go.Lib.hid (fun W (hW : Below w.heap.size w W) => clen_c (HD.out W hW))
      rw [HLN.out] at CL
      have HB := Go.Lib.hid hbc
      clear hu hbc hb8
      go_wp2_with fail
      refine (CA.out _ HB.out).mono ?_
      rintro e w3 ⟨rfl, hc⟩
      have HB := Go.Lib.hid (below_to HB.out (Nat.le_refl _) hc)
      clear hc
      go_wp2_with fail
      refine (CB.out _ HB.out).mono ?_
      rintro e w4 ⟨rfl, hc⟩
      have HB := Go.Lib.hid (below_to HB.out (Nat.le_refl _) hc)
      clear hc
      go_wp2_with fail
      refine (CL.out _ HB.out).mono ?_
      rintro e w5 ⟨rfl, hc⟩
      have HB := Go.Lib.hid (below_to HB.out (Nat.le_refl _) hc)
      clear hc
      go_wp2_with fail
      go_ret
      exact ⟨rfl, HB.out⟩

end Go.Proofs.Ytgbaeipemlcbcaa
