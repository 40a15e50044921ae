/-
  Stage 18 (and 19): the reference's MayTable, Records.
  Stage 18 (and 19): the reference's Records of a table.
  Stage 18: the table of a log's slots.
-/
import Derived.Test.YtkddleonmkhaiaaGreatM32
import Derived.BigQuiet
import Derived.Deep.DeepCutAuto
import Derived.LoopTactic
import Derived.Test.YtkddleonmkhaiaaGreatM31
namespace Go.Proofs.YtkddleonmkhaiaaGreat
open Go.RowKit

def KS : Lay ByteArray := ⟨fun s => [.string s], 1, 9, 103, .string ⟨#[]⟩, 16⟩
theorem KS_ok : KS.Ok Tryz.prog := ⟨by decide, fun _ => rfl, fun x u hu => by rw [List.mem_singleton.1 hu]; rfl, Tryz.underlying103, by kernel_rfl, rfl, by decide⟩
theorem KS.at' {w : World} {a : Option Addr} {n cap : Nat} {l : List ByteArray} (h : KS.R w (.slice a n cap) l) (i : Nat) (hi : i < l.length) : ∃ b o, a = some ⟨b, o, none⟩ ∧ n = l.length ∧ b < w.heap.size ∧ w.cell? ⟨b, o + i, none⟩ = some (.string l[i]) := by
  obtain ⟨b, o, h1, h2, h3, h4⟩ := h.at KS_ok i hi
  exact ⟨b, o, h1, h2, h3, by have := h4 0 _ rfl; simpa [KS] using this⟩
theorem idxKS (b o n cap j : Nat) (h : j < n) (W : World) : (Instr.indexAt 103 (.slice (some ⟨b, o, none⟩) n cap) (.int .i64 (j : Int))).run Tryz.prog W = .ok (.pointer (some ⟨b, o + j, none⟩)) W := by
  have := KS_ok.run_idx b o n cap j h W
  simpa [KS] using this
theorem KS.one' (w : World) (z : ByteArray) : KS.R (w.alloc (.cells #[.string z] 9)) (.slice (some ⟨w.heap.size, 0, none⟩) 1 1) [z] := Lay.R.one w KS_ok z 9 (0, 0)
theorem row6 {w : World} {b : Nat} {a0 a1 a2 a3 a4 a5 : Value} {t : TypeId} {fr : Nat × Nat} (h : w.heap[b]? = some (.cells #[a0, a1, a2, a3, a4, a5] t fr)) :
    w.cell? ⟨b, 0, none⟩ = some a0 ∧ w.cell? ⟨b, 1, none⟩ = some a1 ∧ w.cell? ⟨b, 2, none⟩ = some a2 ∧ w.cell? ⟨b, 3, none⟩ = some a3 ∧ w.cell? ⟨b, 4, none⟩ = some a4 ∧ w.cell? ⟨b, 5, none⟩ = some a5 := by
  have c := fun j => cell_of_row w b j _ _ _ h
  exact ⟨c 0, c 1, c 2, c 3, c 4, c 5⟩

theorem tab_not_key {w : World} {g B : Nat} {TT : TabT} {v : Value} {l : List ByteArray} (h : TK w g TT) (hk : KS.O w B v l) : v.ownBlock ≠ some g := by
  intro e
  obtain ⟨cs, fr, hr⟩ := h.row
  rcases hk.2 with ⟨rfl, -⟩ | ⟨q, cap, cur, rfl, -, h2, -⟩
  · cases e
  · cases e
    rw [hr] at h2
    simp only [Option.some.injEq, Obj.cells.injEq] at h2
    exact absurd h2.2.1 (show 71 ≠ 9 by decide)

set_option maxHeartbeats 8000000 in
set_option maxRecDepth 100000 in
theorem rmaytab_c (TT : TabT) (w : World) (hs : ∀ q, q < 32 → (TT q).2.1.size ≤ 1000 ∧ (TT q).2.2.2.2.2.size ≤ 1000) :
    Calls Tryz.prog 39 #[.agg (tabL TT 32).toArray] w fun e w' => e = .returned (.bool (okTo TT 32)) ∧ Below w.heap.size w w' := by
  have HT := Go.Lib.hid (TK.new w TT)
  have HB := Go.Lib.hid (below_one w (.cells (tabL TT 32).toArray 71))
  have HS := Go.Lib.hid hs
  clear hs
  obtain ⟨TA, hTA⟩ : ∃ TA, TA = (tabL TT 32).toArray := ⟨_, rfl⟩
  rw [← hTA] at HT HB ⊢
  clear hTA
  obtain ⟨g, hg⟩ : ∃ g, g = w.heap.size := ⟨_, rfl⟩
  have HG := Go.Lib.hid hg
  clear hg
  go_enter Tryz.func39, Tryz.ntmps39
  go_wp2_with fail
  rw [← HG.out] at HT HB ⊢
  generalize w.alloc (.cells TA 71) = w1 at *
  go_loopw [3, 4] (fun kv bi wr => ∃ (b : Nat) (u : Value), u = kv ∧ b ≤ 8 ∧ bi = .int .i64 (b : Int) ∧ Hid (KS.O wr g u (keysT TT (4 * b)) ∧ okTo TT (4 * b) = true) ∧ Hid (TK wr g TT) ∧ Hid (Below g w wr)) (fun _ bi _ => 8 - (intOf bi).toNat)
  case atStart => exact ⟨0, _, rfl, by omega, rfl, Go.Lib.hid ⟨Lay.O.nil _ _, rfl⟩, HT, HB⟩
  case round =>
    obtain ⟨b, u, rfl, hb, rfl, HK, HT, HB⟩ := hrel
    by_cases hlt : b < 8
    · have hltI : (b : Int) < 8 := by omega
      go_wp2_with fail
      go_loopw [3, 5] (fun kv si wr => ∃ (s : Nat) (u : Value), u = kv ∧ s ≤ 4 ∧ si = .int .i64 (s : Int) ∧ Hid (KS.O wr g u (keysT TT (4 * b + s)) ∧ okTo TT (4 * b + s) = true) ∧ Hid (TK wr g TT) ∧ Hid (Below g w wr)) (fun _ si _ => 4 - (intOf si).toNat)
      case atStart => exact ⟨0, _, rfl, by omega, rfl, HK, HT, HB⟩
      case round =>
        obtain ⟨s, u, rfl, hs4, rfl, HK, HT, HB⟩ := hrel
        by_cases hslt : s < 4
        · have hsI : (s : Int) < 4 := by omega
          obtain ⟨c0, c1, c2, c3, c4, c5⟩ := HT.out.at hlt hslt
          have hix1 := idxT g b hlt
          have hix2 := idxT2 g (24 * b) s hslt
          have hsz := HS.out (4 * b + s) (by omega)
          have HBAD := Go.Lib.hid fun (h : okSlot TT (4 * b + s) = false) => okTo_bad (n := 32) h (by omega)
          have HOK := Go.Lib.hid fun (h : okSlot TT (4 * b + s) = true) => show okTo TT (4 * b + (s + 1)) = true from by rw [show 4 * b + (s + 1) = (4 * b + s) + 1 by omega, okTo_succ, HK.out.2, h]; rfl
          have HSL := Go.Lib.hid (show okSlot TT (4 * b + s) = _ from rfl)
          have HKN := Go.Lib.hid (show keysT TT (4 * b + (s + 1)) = keysT TT (4 * b + s) ++ (if (TT (4 * b + s)).1 then [(TT (4 * b + s)).2.1] else []) from keysT_succ TT (4 * b + s))
          have HKL := Go.Lib.hid (show (keysT TT (4 * b + s)).length ≤ 32 from by have := keysT_len TT (4 * b + s); omega)
          have HO := Go.Lib.hid HK.out.1
          rw [show okSlot TT (4 * b + s) = if (TT (4 * b + s)).1 then mayT (TT (4 * b + s)).2 && ((4 * b + s) / 4 == firstN (hR (TT (4 * b + s)).2) || (4 * b + s) / 4 == othN (firstN (hR (TT (4 * b + s)).2)) (tagN (hR (TT (4 * b + s)).2))) && !((keysT TT (4 * b + s)).any fun k => decide (k = (TT (4 * b + s)).2.1)) else decide ((TT (4 * b + s)).2 = nullR) from rfl, show (4 * b + s) / 4 = b by omega] at HBAD HOK
          clear HSL HK
          have HKN' := Go.Lib.hid HKN.out
          clear HKN
          generalize keysT TT (4 * b + s) = K at *
          generalize TT (4 * b + s) = y at *
          obtain ⟨hq, kx, gx, ax, nx, sx⟩ := y
          simp only [] at c0 c1 c2 c3 c4 c5 hsz HBAD HOK HKN'
          have hbA := below_one wr (.cells #[.bool hq, .string kx, .bool gx, .int .i64 ax, .int .i64 nx, .string sx] 68)
          have HX := Go.Lib.hid (heap_alloc_new wr (.cells #[.bool hq, .string kx, .bool gx, .int .i64 ax, .int .i64 nx, .string sx] 68))
          have HT2 := Go.Lib.hid (HT.out.below hbA)
          have HB2 := Go.Lib.hid (HB.out.trans (hbA.mono (by have := HB.out.size; have := HG.out; omega)))
          have HO2 := Go.Lib.hid (HO.out.below hbA)
          have CH := Go.Lib.hid fun W => rhash_k kx (hashS kx) rfl W (by omega)
          have CM := fun W => rmayrec_c kx gx ax nx sx W (by unfold maxLen; omega) (by unfold maxLen; omega)
          unfold recV at CM
          have HMT := Go.Lib.hid (show mayRec kx gx ax nx sx = mayT (kx, gx, ax, nx, sx) from rfl)
          rw [HMT.out] at CM
          have CM := Go.Lib.hid CM
          have HHR := Go.Lib.hid (show hR (kx, gx, ax, nx, sx) = hashS kx from rfl)
          rw [HHR.out] at HBAD HOK
          have HHL := Go.Lib.hid (hashS_lt kx)
          clear hbA hsz HT HB HO
          go_upto_region 9 with (fail)
          obtain ⟨g2, hg2⟩ : ∃ g, g = wr.heap.size := ⟨_, rfl⟩
          rw [← hg2] at HX ⊢
          clear hg2 c0 c1 c2 c3 c4 c5 hix1 hix2
          generalize wr.alloc (.cells #[.bool hq, .string kx, .bool gx, .int .i64 ax, .int .i64 nx, .string sx] 68) = w2 at *
          obtain ⟨x0, x1, x2, x3, x4, x5⟩ := row6 HX.out
          cases hq with
          | false => as_aux_lemma =>
            simp only [Bool.false_eq_true, if_false, List.append_nil] at HBAD HOK HKN'
            have CE := reqrec_c kx gx ax nx sx ⟨#[]⟩ false 0 0 ⟨#[]⟩ w2
            rw [show eqRec kx gx ax nx sx ⟨#[]⟩ false 0 0 ⟨#[]⟩ = decide ((kx, gx, ax, nx, sx) = nullR) from eqRec_iff (kx, gx, ax, nx, sx) nullR] at CE
            unfold recV at CE
            generalize decide ((kx, gx, ax, nx, sx) = nullR) = t at *
            have CE := Go.Lib.hid CE
            clear CM CH HMT HHR
            go_wp2_with fail
            refine CE.out.mono ?_
            rintro e w3 ⟨rfl, hc⟩
            have HT3 := Go.Lib.hid (HT2.out.below hc)
            have HB3 := Go.Lib.hid (HB2.out.trans (hc.mono (by have := HB2.out.size; have := HG.out; omega)))
            have HO3 := Go.Lib.hid (HO2.out.below hc)
            clear hc CE x0 x1 x2 x3 x4 x5
            cases t with
            | false =>
              have HE := Go.Lib.hid (HBAD.out rfl)
              go_wp2_with fail
              go_ret
              exact ⟨by rw [HE.out]; rfl, by rw [← HG.out]; exact HB3.out⟩
            | true =>
              have HE := Go.Lib.hid (HOK.out rfl)
              go_wp2_with fail
              exact ⟨⟨s + 1, _, rfl, by omega, by go_num, Go.Lib.hid ⟨by rw [HKN'.out]; exact HO3.out, HE.out⟩, HT3, HB3⟩, by simp only [intOf]; omega⟩
          | true =>
            simp only [if_true] at HBAD HOK HKN'
            go_wp2_with fail
            refine (CH.out _).mono ?_
            rintro e w3 ⟨rfl, hc⟩
            have HT3 := Go.Lib.hid (HT2.out.below hc)
            have HB3 := Go.Lib.hid (HB2.out.trans (hc.mono (by have := HB2.out.size; have := HG.out; omega)))
            have HO3 := Go.Lib.hid (HO2.out.below hc)
            have HX3 := Go.Lib.hid (row_kept HX.out hc)
            have CF := Go.Lib.hid (rfirst_c (hashS kx) w3 HHL.out)
            clear hc CH x0 x1 x2 x3 x4 x5 HX
            have HFL := Go.Lib.hid (first_lt (hashS kx))
            have HTL := Go.Lib.hid (tag_lt (hashS kx))
            go_wp2_with fail
            refine CF.out.mono ?_
            rintro e w4 ⟨rfl, rfl⟩
            obtain ⟨x0, x1, x2, x3, x4, x5⟩ := row6 HX3.out
            clear CF
            go_wp2_with fail
            refine (CM.out _).mono ?_
            rintro e w4 ⟨rfl, hc⟩
            have HT4 := Go.Lib.hid (HT3.out.below hc)
            have HB4 := Go.Lib.hid (HB3.out.trans (hc.mono (by have := HB3.out.size; have := HG.out; omega)))
            have HO4 := Go.Lib.hid (HO3.out.below hc)
            have HX4 := Go.Lib.hid (row_kept HX3.out hc)
            have CTG := Go.Lib.hid fun W => rtag_c (hashS kx) W HHL.out
            have COT := Go.Lib.hid fun W => rother_c (firstN (hashS kx) : Int) (tagN (hashS kx) : Int) W
            rw [otherI_nat HFL.out HTL.out] at COT
            clear hc CM x0 x1 x2 x3 x4 x5 HX3
            generalize mayT (kx, gx, ax, nx, sx) = m at *
            generalize othN (firstN (hashS kx)) (tagN (hashS kx)) = fo at *
            generalize firstN (hashS kx) = ff at *
            generalize tagN (hashS kx) = ft at *
            generalize hashS kx = hx at *
            cases m with
            | false =>
              as_aux_lemma =>
                have HE := Go.Lib.hid (HBAD.out rfl)
                go_wp2_with fail
                go_ret
                exact ⟨by rw [HE.out]; rfl, by rw [← HG.out]; exact HB4.out⟩
            | true =>
              simp only [Bool.true_and] at HBAD HOK
              by_cases hbf : b = ff
              · have hbf1 : ((b : Int) == (ff : Int)) = true := beq_iff_eq.2 (by omega)
                have hbf2 : ((b : Int) != (ff : Int)) = false := by simp [bne, hbf1]
                rw [show ((b == ff || b == fo)) = true from by simp [hbf], Bool.true_and] at HBAD HOK
                have HBF := Go.Lib.hid hbf
                clear hbf
                as_aux_lemma =>
                  go_wp2_with fail
                  clear hbf1 hbf2
                  have hform : ∃ a cap, u = .slice a K.length cap := by obtain ⟨a, cap, h, -⟩ := HO4.out.r.form; exact ⟨a, cap, h⟩
                  obtain ⟨ka, kc, rfl⟩ := hform
                  have hkl := HKL.out
                  go_loopw [9] (fun ii wr => ∃ i : Nat, i ≤ K.length ∧ ii = .int .i64 (i : Int) ∧ Hid (∀ j (hj : j < K.length), j < i → K[j] ≠ kx) ∧ Hid (Below w4.heap.size w4 wr)) (fun ii _ => K.length - (intOf ii).toNat)
                  case atStart => exact ⟨0, by omega, rfl, Go.Lib.hid fun j hj h => absurd h (by omega), Go.Lib.hid (Below.refl _ _)⟩
                  case round =>
                    obtain ⟨i, hi, rfl, HNO, HBI⟩ := hrel
                    by_cases hil : i < K.length
                    · obtain ⟨kb, ko, rfl, -, -, k0⟩ := KS.at' (HO4.out.r.below HBI.out) i hil
                      have hix := idxKS kb ko K.length kc i hil
                      obtain ⟨x0, x1, x2, x3, x4, x5⟩ := row6 (row_kept HX4.out HBI.out)
                      have HHIT := Go.Lib.hid (fun (h : K[i] = kx) => HBAD.out (show (!(K.any fun k => decide (k = kx))) = false from by rw [List.any_eq_true.2 ⟨K[i], List.getElem_mem hil, by simp [h]⟩]; rfl))
                      have HMISS := Go.Lib.hid (fun (h : K[i] ≠ kx) => show ∀ j (hj : j < K.length), j < i + 1 → K[j] ≠ kx from fun j hj hji => by
                        rcases Nat.lt_or_ge j i with h2 | h2
                        · exact HNO.out j hj h2
                        · obtain rfl : j = i := by omega
                          exact h)
                      clear HNO
                      generalize K[i] = ki at *
                      by_cases hq : ki.toList = kx.toList
                      · have hqb : (ki.toList == kx.toList) = true := beq_iff_eq.2 hq
                        have HE := Go.Lib.hid (HHIT.out (ByteArray.ext (Array.toList_inj.1 (by rw [← ByteArray.toList_eq, ← ByteArray.toList_eq]; exact hq))))
                        clear hq HHIT HMISS
                        go_upto_region 19 with (fail)
                        go_quiet (fail)
                        have HB9 := Go.Lib.hid (HB4.out.trans ((HBI.out.trans ((below_drewN (Below.refl _ _) nq).mono HBI.out.size)).mono (by have := HB4.out.size; have := HG.out; omega)))
                        go_wp2_with fail
                        go_ret
                        exact ⟨by rw [HE.out]; rfl, by rw [← HG.out]; exact HB9.out⟩
                      · have hqb : (ki.toList == kx.toList) = false := beq_eq_false_iff_ne.2 hq
                        have HN := Go.Lib.hid (HMISS.out (fun e => hq (by rw [e])))
                        clear hq HHIT HMISS
                        go_upto_region 19 with (fail)
                        go_quiet (fail)
                        have HB9 := Go.Lib.hid (HBI.out.trans ((below_drewN (Below.refl _ _) nq).mono HBI.out.size))
                        clear k0 hix x0 x1 x2 x3 x4 x5
                        generalize wr.drewN nq = w9 at *
                        go_wp2_with fail
                        exact ⟨⟨i + 1, by omega, by go_num, HN, HB9⟩, by simp only [intOf]; omega⟩
                    · obtain rfl : i = K.length := by omega
                      have HE := Go.Lib.hid (HOK.out (show (!(K.any fun k => decide (k = kx))) = true from by
                        rw [Bool.not_eq_true']
                        rw [Bool.eq_false_iff]
                        intro hc
                        obtain ⟨k, hkm, hke⟩ := List.any_eq_true.1 hc
                        obtain ⟨j, hj, rfl⟩ := List.getElem_of_mem hkm
                        exact HNO.out j hj hj (of_decide_eq_true hke)))
                      have hb9 := below_one wr (.cells #[.string kx] 9)
                      have HBX := Go.Lib.hid (HBI.out.trans (hb9.mono HBI.out.size))
                      have HO9 := Go.Lib.hid (HO4.out.below HBX.out)
                      have HT9 := Go.Lib.hid (HT4.out.below HBX.out)
                      have HB9 := Go.Lib.hid (HB4.out.trans (HBX.out.mono (by have := HB4.out.size; have := HG.out; omega)))
                      have HON := Go.Lib.hid (KS.one' wr kx)
                      obtain ⟨x0, x1, x2, x3, x4, x5⟩ := row6 (row_kept HX4.out HBI.out)
                      clear hb9 HNO
                      go_wp2_with (first
                        | (with_reducible show wpList _ _ _ (⟨some 73, _, _, _, _, _⟩ :: _) _ _; go_loud (refine KS_ok.append rfl (.tmp 68) (.tmp 72) rfl g (.slice ka K.length kc) (.slice (some ⟨wr.heap.size, 0, none⟩) 1 1) K [kx] rfl rfl HO9.out HON.out (by have := HKL.out; simp; omega) (by have := HB9.out.size; have := HG.out; omega) ?_); intro v10 w10 ho10 hg10)
                        | fail)
                      have HO10 := Go.Lib.hid ho10
                      have HT10 := Go.Lib.hid (HT9.out.same (hg10.block g HT9.out.lt (fun e => tab_not_key HT9.out HO9.out e.symm)))
                      have HB10 := Go.Lib.hid (HB9.out.grown hg10 (by have := HB9.out.size; have := HG.out; omega) (fun j hj => HO9.out.row j hj))
                      clear ho10 hg10
                      go_wp2_with fail
                      exact ⟨⟨s + 1, _, rfl, by omega, by go_num, Go.Lib.hid ⟨by rw [HKN'.out]; exact HO10.out, HE.out⟩, HT10, HB10⟩, by simp only [intOf]; omega⟩
              · have hbf1 : ((b : Int) == (ff : Int)) = false := beq_eq_false_iff_ne.2 (by omega)
                have hbf2 : ((b : Int) != (ff : Int)) = true := by simp [bne, hbf1]
                by_cases hbo : b = fo
                · have hbo1 : ((b : Int) == (fo : Int)) = true := beq_iff_eq.2 (by omega)
                  have hbo2 : ((b : Int) != (fo : Int)) = false := by simp [bne, hbo1]
                  rw [show ((b == ff || b == fo)) = true from by simp [hbo], Bool.true_and] at HBAD HOK
                  have HBF := Go.Lib.hid hbo
                  clear hbf hbo
                  go_wp2_with fail
                  refine (CTG.out _).mono ?_
                  rintro e w5 ⟨rfl, rfl⟩
                  go_wp2_with fail
                  refine (COT.out _).mono ?_
                  rintro e w5 ⟨rfl, rfl⟩
                  as_aux_lemma =>
                    go_wp2_with fail
                    clear hbf1 hbf2
                    have hform : ∃ a cap, u = .slice a K.length cap := by obtain ⟨a, cap, h, -⟩ := HO4.out.r.form; exact ⟨a, cap, h⟩
                    obtain ⟨ka, kc, rfl⟩ := hform
                    have hkl := HKL.out
                    go_loopw [9] (fun ii wr => ∃ i : Nat, i ≤ K.length ∧ ii = .int .i64 (i : Int) ∧ Hid (∀ j (hj : j < K.length), j < i → K[j] ≠ kx) ∧ Hid (Below w4.heap.size w4 wr)) (fun ii _ => K.length - (intOf ii).toNat)
                    case atStart => exact ⟨0, by omega, rfl, Go.Lib.hid fun j hj h => absurd h (by omega), Go.Lib.hid (Below.refl _ _)⟩
                    case round =>
                      obtain ⟨i, hi, rfl, HNO, HBI⟩ := hrel
                      by_cases hil : i < K.length
                      · obtain ⟨kb, ko, rfl, -, -, k0⟩ := KS.at' (HO4.out.r.below HBI.out) i hil
                        have hix := idxKS kb ko K.length kc i hil
                        obtain ⟨x0, x1, x2, x3, x4, x5⟩ := row6 (row_kept HX4.out HBI.out)
                        have HHIT := Go.Lib.hid (fun (h : K[i] = kx) => HBAD.out (show (!(K.any fun k => decide (k = kx))) = false from by rw [List.any_eq_true.2 ⟨K[i], List.getElem_mem hil, by simp [h]⟩]; rfl))
                        have HMISS := Go.Lib.hid (fun (h : K[i] ≠ kx) => show ∀ j (hj : j < K.length), j < i + 1 → K[j] ≠ kx from fun j hj hji => by
                          rcases Nat.lt_or_ge j i with h2 | h2
                          · exact HNO.out j hj h2
                          · obtain rfl : j = i := by omega
                            exact h)
                        clear HNO
                        generalize K[i] = ki at *
                        by_cases hq : ki.toList = kx.toList
                        · have hqb : (ki.toList == kx.toList) = true := beq_iff_eq.2 hq
                          have HE := Go.Lib.hid (HHIT.out (ByteArray.ext (Array.toList_inj.1 (by rw [← ByteArray.toList_eq, ← ByteArray.toList_eq]; exact hq))))
                          clear hq HHIT HMISS
                          go_upto_region 19 with (fail)
                          go_quiet (fail)
                          have HB9 := Go.Lib.hid (HB4.out.trans ((HBI.out.trans ((below_drewN (Below.refl _ _) nq).mono HBI.out.size)).mono (by have := HB4.out.size; have := HG.out; omega)))
                          go_wp2_with fail
                          go_ret
                          exact ⟨by rw [HE.out]; rfl, by rw [← HG.out]; exact HB9.out⟩
                        · have hqb : (ki.toList == kx.toList) = false := beq_eq_false_iff_ne.2 hq
                          have HN := Go.Lib.hid (HMISS.out (fun e => hq (by rw [e])))
                          clear hq HHIT HMISS
                          go_upto_region 19 with (fail)
                          go_quiet (fail)
                          have HB9 := Go.Lib.hid (HBI.out.trans ((below_drewN (Below.refl _ _) nq).mono HBI.out.size))
                          clear k0 hix x0 x1 x2 x3 x4 x5
                          generalize wr.drewN nq = w9 at *
                          go_wp2_with fail
                          exact ⟨⟨i + 1, by omega, by go_num, HN, HB9⟩, by simp only [intOf]; omega⟩
                      · obtain rfl : i = K.length := by omega
                        have HE := Go.Lib.hid (HOK.out (show (!(K.any fun k => decide (k = kx))) = true from by
                          rw [Bool.not_eq_true']
                          rw [Bool.eq_false_iff]
                          intro hc
                          obtain ⟨k, hkm, hke⟩ := List.any_eq_true.1 hc
                          obtain ⟨j, hj, rfl⟩ := List.getElem_of_mem hkm
                          exact HNO.out j hj hj (of_decide_eq_true hke)))
                        have hb9 := below_one wr (.cells #[.string kx] 9)
                        have HBX := Go.Lib.hid (HBI.out.trans (hb9.mono HBI.out.size))
                        have HO9 := Go.Lib.hid (HO4.out.below HBX.out)
                        have HT9 := Go.Lib.hid (HT4.out.below HBX.out)
                        have HB9 := Go.Lib.hid (HB4.out.trans (HBX.out.mono (by have := HB4.out.size; have := HG.out; omega)))
                        have HON := Go.Lib.hid (KS.one' wr kx)
                        obtain ⟨x0, x1, x2, x3, x4, x5⟩ := row6 (row_kept HX4.out HBI.out)
                        clear hb9 HNO
                        go_wp2_with (first
                          | (with_reducible show wpList _ _ _ (⟨some 73, _, _, _, _, _⟩ :: _) _ _; go_loud (refine KS_ok.append rfl (.tmp 68) (.tmp 72) rfl g (.slice ka K.length kc) (.slice (some ⟨wr.heap.size, 0, none⟩) 1 1) K [kx] rfl rfl HO9.out HON.out (by have := HKL.out; simp; omega) (by have := HB9.out.size; have := HG.out; omega) ?_); intro v10 w10 ho10 hg10)
                          | fail)
                        have HO10 := Go.Lib.hid ho10
                        have HT10 := Go.Lib.hid (HT9.out.same (hg10.block g HT9.out.lt (fun e => tab_not_key HT9.out HO9.out e.symm)))
                        have HB10 := Go.Lib.hid (HB9.out.grown hg10 (by have := HB9.out.size; have := HG.out; omega) (fun j hj => HO9.out.row j hj))
                        clear ho10 hg10
                        go_wp2_with fail
                        exact ⟨⟨s + 1, _, rfl, by omega, by go_num, Go.Lib.hid ⟨by rw [HKN'.out]; exact HO10.out, HE.out⟩, HT10, HB10⟩, by simp only [intOf]; omega⟩
                · have hbo1 : ((b : Int) == (fo : Int)) = false := beq_eq_false_iff_ne.2 (by omega)
                  have hbo2 : ((b : Int) != (fo : Int)) = true := by simp [bne, hbo1]
                  have HE := Go.Lib.hid (HBAD.out (by simp [hbf, hbo]))
                  clear hbf hbo
                  go_wp2_with fail
                  refine (CTG.out _).mono ?_
                  rintro e w5 ⟨rfl, rfl⟩
                  go_wp2_with fail
                  refine (COT.out _).mono ?_
                  rintro e w5 ⟨rfl, rfl⟩
                  go_wp2_with fail
                  go_ret
                  exact ⟨by rw [HE.out]; rfl, by rw [← HG.out]; exact HB4.out⟩
        · obtain rfl : s = 4 := by omega
          go_wp2_with fail
          exact ⟨⟨b + 1, _, rfl, by omega, by go_num, HK, HT, HB⟩, by simp only [intOf]; omega⟩
    · obtain rfl : b = 8 := by omega
      have HE := Go.Lib.hid HK.out.2
      go_wp2_with fail
      go_ret
      exact ⟨by rw [HE.out]; rfl, by have := HB.out; rw [HG.out] at this; exact this⟩

end Go.Proofs.YtkddleonmkhaiaaGreat

namespace Go.Proofs.YtkddleonmkhaiaaGreat
open Go.RowKit

set_option maxHeartbeats 2000000 in
set_option maxRecDepth 100000 in
theorem rrecs_c (TT : TabT) (w : World) :
    Calls Tryz.prog 40 #[.agg (tabL TT 32).toArray] w fun e w' => ∃ v', e = .returned v' ∧ OwnRec w' w.heap.size v' (newestR (recsT TT 32)) ∧ Below w.heap.size w w' := by
  have HT := Go.Lib.hid (TK.new w TT)
  have HB := Go.Lib.hid (below_one w (.cells (tabL TT 32).toArray 71))
  obtain ⟨TA, hTA⟩ : ∃ TA, TA = (tabL TT 32).toArray := ⟨_, rfl⟩
  rw [← hTA] at HT HB ⊢
  clear hTA
  obtain ⟨g, hg⟩ : ∃ g, g = w.heap.size := ⟨_, rfl⟩
  have HG := Go.Lib.hid hg
  clear hg
  go_enter Tryz.func40, Tryz.ntmps40
  go_wp2_with fail
  rw [← HG.out] at HT HB ⊢
  generalize w.alloc (.cells TA 71) = w1 at *
  go_loopw [3, 4] (fun lv ii wr => ∃ (i : Nat) (u : Value), u = lv ∧ i ≤ 32 ∧ ii = .int .i64 (i : Int) ∧ Hid (OwnRec wr g u (newestR (recsT TT i))) ∧ Hid (TK wr g TT) ∧ Hid (Below g w wr)) (fun _ ii _ => 32 - (intOf ii).toNat)
  case atStart => exact ⟨0, _, rfl, by omega, rfl, Go.Lib.hid (OwnRec.nil _ _), HT, HB⟩
  case round =>
    obtain ⟨i, u, rfl, hi, rfl, HO, HT, HB⟩ := hrel
    by_cases hlt : i < 32
    · have hltI : (i : Int) < 32 := by omega
      obtain ⟨D, hD⟩ : ∃ D, D = i / 4 := ⟨_, rfl⟩
      obtain ⟨R, hR⟩ : ∃ R, R = i % 4 := ⟨_, rfl⟩
      have d1 : (i : Int).tdiv 4 = (D : Int) := by rw [Int.tdiv_eq_ediv_of_nonneg (by omega)]; omega
      have r1 : (i : Int).tmod 4 = (R : Int) := by rw [Int.tmod_eq_emod_of_nonneg (by omega)]; omega
      have hD8 : D < 8 := by omega
      have hR4 : R < 4 := by omega
      obtain ⟨c0, c1, c2, c3, c4, c5⟩ := HT.out.at hD8 hR4
      rw [show 4 * D + R = i by omega] at c0 c1 c2 c3 c4 c5
      have hix1 := idxT g D hD8
      have hix2 := idxT2 g (24 * D) R hR4
      have HRN := Go.Lib.hid (recsT_succ TT i)
      have HLN := Go.Lib.hid (show (newestR (recsT TT i)).length ≤ 1000 from by have := newestR_len (recsT TT i); have := recsT_len TT i; omega)
      have HSN := Go.Lib.hid (newest_snoc (recsT TT i) (TT i).2)
      clear hD hR
      generalize TT i = y at *
      obtain ⟨hq, kx, gx, ax, nx, sx⟩ := y
      simp only [] at c0 c1 c2 c3 c4 c5 HRN HSN
      cases hq with
      | false =>
        simp only [Bool.false_eq_true, if_false, List.append_nil] at HRN
        go_wp2_with fail
        exact ⟨⟨i + 1, _, rfl, by omega, by go_num, by rw [HRN.out]; exact HO, HT, HB⟩, by simp only [intOf]; omega⟩
      | true =>
        simp only [if_true] at HRN
        have CS := rset_c u (newestR (recsT TT i)) kx gx ax nx sx wr HO.out.rs HLN.out
        rw [← HSN.out, ← HRN.out] at CS
        unfold recV at CS
        have CS := Go.Lib.hid CS
        go_wp2_with fail
        refine CS.out.mono ?_
        rintro e w2 ⟨v2, rfl, ho, hb⟩
        have hsz : g ≤ wr.heap.size := by have := HB.out.size; have := HG.out; omega
        have HO2 := Go.Lib.hid (ho.mono hsz)
        have HT2 := Go.Lib.hid (HT.out.below hb)
        have HB2 := Go.Lib.hid (HB.out.trans (hb.mono hsz))
        clear ho hb hsz CS c0 c1 c2 c3 c4 c5 hix1 hix2
        go_wp2_with fail
        exact ⟨⟨i + 1, _, rfl, by omega, by go_num, HO2, HT2, HB2⟩, by simp only [intOf]; omega⟩
    · obtain rfl : i = 32 := by omega
      go_wp2_with fail
      go_ret
      exact ⟨_, rfl, by rw [← HG.out]; exact HO.out, by rw [← HG.out]; exact HB.out⟩

end Go.Proofs.YtkddleonmkhaiaaGreat

namespace Go.Proofs.YtkddleonmkhaiaaGreat
open Go.RowKit

/-! ### The table of a log's slots. -/
def ofO (o : Option RecT) : Bool × RecT := (o.isSome, o.getD nullR)
def logT (T : SlT) (L : List RecT) : TabT := fun q => ofO (slotO T L q)
theorem hasT_log (T : SlT) (L : List RecT) (q : Nat) : hasT (logT T L) q = slotO T L q := by
  unfold hasT logT ofO
  cases slotO T L q <;> rfl
theorem recsT_log {T : SlT} {L : List RecT} (hf : Fits T (esL L)) : (recsT (logT T L) 32).Perm L := by
  have e1 : recsT (logT T L) 32 = (slL T).map fun x => L.getD x.2.2.toNat nullR := by
    unfold recsT slL
    rw [List.map_filterMap]
    congr 1
    funext q
    rw [hasT_log]
    unfold slotO
    cases T q <;> rfl
  have e2 : (slL T).map (fun x => L.getD x.2.2.toNat nullR) = (((slL T).map keyS).map Prod.snd).map fun z => L.getD z.toNat nullR := by
    rw [List.map_map, List.map_map]
    rfl
  have e3 : (((esL L).map keyE).map Prod.snd).map (fun z => L.getD z.toNat nullR) = L := by
    rw [List.map_map, List.map_map]
    apply List.ext_getElem
    · simp [esL_len]
    · intro i h1 h2
      rw [List.getElem_map, esL_at h2]
      simp only [Function.comp, keyE, Int.toNat_natCast]
      rw [List.getD_eq_getElem?_getD, List.getElem?_eq_getElem h2]
      rfl
  rw [e1, e2]
  have := (hf.map Prod.snd).map fun z => L.getD z.toNat nullR
  rw [e3] at this
  exact this
theorem newest_log {T : SlT} {L : List RecT} (hf : Fits T (esL L)) (hL : KeysOk L) : newestR (recsT (logT T L) 32) = newestR L :=
  newest_congr (hL.perm (recsT_log hf).symm) hL fun _ => (recsT_log hf).mem_iff
theorem okSlot_log {T : SlT} {L : List RecT} (hf : Fits T (esL L)) (hL : KeysOk L) (hm : ∀ x ∈ L, mayT x = true) {q : Nat} (hq : q < 32) : okSlot (logT T L) q = true := by
  unfold okSlot
  cases hT : T q with
  | none =>
    have e : logT T L q = (false, nullR) := by unfold logT slotO; rw [hT]; rfl
    rw [e]
    simp
  | some y =>
    obtain ⟨t, z⟩ := y
    obtain ⟨i, hi, -, hs, hk⟩ := slot_some hf hq hT
    have e : logT T L q = (true, L[i]) := by unfold logT; rw [hs]; rfl
    have hnd : ((keysT (logT T L) q).any fun k => decide (k = L[i].1)) = false := by
      have hN : KeysOk (recsT (logT T L) 32) := hL.perm (recsT_log hf).symm
      have hsplit : recsT (logT T L) 32 = recsT (logT T L) q ++ (L[i] :: ((List.range (31 - q)).map fun k => q + 1 + k).filterMap (hasT (logT T L))) := by
        unfold recsT
        rw [range_split hq, List.filterMap_append, List.filterMap_cons]
        have : hasT (logT T L) q = some L[i] := by rw [hasT_log]; exact hs
        rw [this]
      rw [hsplit] at hN
      unfold KeysOk at hN
      rw [List.map_append, List.map_cons] at hN
      have hd := (List.nodup_append.1 hN).2.2
      rw [Bool.eq_false_iff]
      intro hc
      obtain ⟨k, hkm, hke⟩ := List.any_eq_true.1 hc
      obtain rfl := of_decide_eq_true hke
      have hc := hkm
      unfold keysT at hc
      obtain ⟨x, hx, hxe⟩ := List.mem_map.1 hc
      exact hd (keyR x) (List.mem_map.2 ⟨x, hx, rfl⟩) (keyR L[i]) (List.mem_cons_self ..) (by unfold keyR; rw [hxe])
    rw [e]
    simp only [if_true]
    rw [hnd]
    simp only [Bool.not_false, Bool.and_true]
    rw [hm _ (List.getElem_mem hi), Bool.true_and]
    unfold keyH at hk
    have h2 := (keyN_iff (by omega) (first_lt _)).1 hk
    rw [Bool.or_eq_true, beq_iff_eq, beq_iff_eq]
    exact h2.2
theorem okTo_log {T : SlT} {L : List RecT} (hf : Fits T (esL L)) (hL : KeysOk L) (hm : ∀ x ∈ L, mayT x = true) : okTo (logT T L) 32 = true := by
  unfold okTo
  rw [List.all_eq_true]
  intro q hq
  exact okSlot_log hf hL hm (List.mem_range.1 hq)
theorem logT_short {T : SlT} {L : List RecT} (hf : Fits T (esL L)) (hm : ∀ x ∈ L, mayT x = true) {q : Nat} (hq : q < 32) : (logT T L q).2.1.size ≤ 1000 ∧ (logT T L q).2.2.2.2.2.size ≤ 1000 := by
  cases hT : T q with
  | none =>
    have e : logT T L q = (false, nullR) := by unfold logT slotO; rw [hT]; rfl
    rw [e]
    decide
  | some y =>
    obtain ⟨t, z⟩ := y
    obtain ⟨i, hi, -, hs, -⟩ := slot_some hf hq hT
    have e : logT T L q = (true, L[i]) := by unfold logT; rw [hs]; rfl
    rw [e]
    have := mayT_short (hm _ (List.getElem_mem hi))
    simp only []
    omega

end Go.Proofs.YtkddleonmkhaiaaGreat
