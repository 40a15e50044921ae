/-
  Stage 18 (and 19): the reference's MayTable, Records.
  Stage 18 (and 19): the reference's Records of a table.
  What a value holds.
  The contract of strings.HasPrefix.
  The contract of runes.Valid.
  Package value: contract of textMay.
  The contract of strings.Clone.
  Package value: contract of Of.
  Package key: contract of May.
  Package record: contracts of valMay, May, Eq.
  Package record: contract of fresh.
  Package fresh: contract of Rec.
-/
import Derived.Test.YthbnecdeebmlhaaGreatM05
import Derived.BigQuiet
import Derived.Deep.DeepCutAuto
import Derived.LoopTactic
import Derived.Test.YthbnecdeebmlhaaGreatM02
import Derived.Test.YthbnecdeebmlhaaGreatM01
import Derived.Lib.UnsafeStr
import Derived.Lib.BufferWrite
import Derived.Test.YthbnecdeebmlhaaGreatM03
namespace Go.Proofs.YthbnecdeebmlhaaGreat
open Go.RowKit

def KS : Lay ByteArray := ⟨fun s => [.string s], 1, 9, 91, .string ⟨#[]⟩, 16⟩
theorem KS_ok : KS.Ok Tryz.prog := ⟨by decide, fun _ => rfl, fun x u hu => by rw [List.mem_singleton.1 hu]; rfl, Tryz.underlying91, by kernel_rfl, rfl, by decide⟩
theorem KS.at' {w : World} {a : Option Addr} {n cap : Nat} {l : List ByteArray} (h : KS.R w (.slice a n cap) l) (i : Nat) (hi : i < l.length) : ∃ b o, a = some ⟨b, o, none⟩ ∧ n = l.length ∧ b < w.heap.size ∧ w.cell? ⟨b, o + i, none⟩ = some (.string l[i]) := by
  obtain ⟨b, o, h1, h2, h3, h4⟩ := h.at KS_ok i hi
  exact ⟨b, o, h1, h2, h3, by have := h4 0 _ rfl; simpa [KS] using this⟩
theorem idxKS (b o n cap j : Nat) (h : j < n) (W : World) : (Instr.indexAt 91 (.slice (some ⟨b, o, none⟩) n cap) (.int .i64 (j : Int))).run Tryz.prog W = .ok (.pointer (some ⟨b, o + j, none⟩)) W := by
  have := KS_ok.run_idx b o n cap j h W
  simpa [KS] using this
theorem KS.one' (w : World) (z : ByteArray) : KS.R (w.alloc (.cells #[.string z] 9)) (.slice (some ⟨w.heap.size, 0, none⟩) 1 1) [z] := Lay.R.one w KS_ok z 9 (0, 0)
theorem row6 {w : World} {b : Nat} {a0 a1 a2 a3 a4 a5 : Value} {t : TypeId} {fr : Nat × Nat} (h : w.heap[b]? = some (.cells #[a0, a1, a2, a3, a4, a5] t fr)) :
    w.cell? ⟨b, 0, none⟩ = some a0 ∧ w.cell? ⟨b, 1, none⟩ = some a1 ∧ w.cell? ⟨b, 2, none⟩ = some a2 ∧ w.cell? ⟨b, 3, none⟩ = some a3 ∧ w.cell? ⟨b, 4, none⟩ = some a4 ∧ w.cell? ⟨b, 5, none⟩ = some a5 := by
  have c := fun j => cell_of_row w b j _ _ _ h
  exact ⟨c 0, c 1, c 2, c 3, c 4, c 5⟩

theorem tab_not_key {w : World} {g B : Nat} {TT : TabT} {v : Value} {l : List ByteArray} (h : TK w g TT) (hk : KS.O w B v l) : v.ownBlock ≠ some g := by
  intro e
  obtain ⟨cs, fr, hr⟩ := h.row
  rcases hk.2 with ⟨rfl, -⟩ | ⟨q, cap, cur, rfl, -, h2, -⟩
  · cases e
  · cases e
    rw [hr] at h2
    simp only [Option.some.injEq, Obj.cells.injEq] at h2
    exact absurd h2.2.1 (show 33 ≠ 9 by decide)

set_option maxHeartbeats 8000000 in
set_option maxRecDepth 100000 in
theorem rmaytab_c (TT : TabT) (w : World) (hs : ∀ q, q < 32 → (TT q).2.1.size ≤ 1000 ∧ (TT q).2.2.2.2.2.size ≤ 1000) :
    Calls Tryz.prog 16 #[.agg (tabL TT 32).toArray] w fun e w' => e = .returned (.bool (okTo TT 32)) ∧ Below w.heap.size w w' := by
  have HT := Go.Lib.hid (TK.new w TT)
  have HB := Go.Lib.hid (below_one w (.cells (tabL TT 32).toArray 33))
  have HS := Go.Lib.hid hs
  clear hs
  obtain ⟨TA, hTA⟩ : ∃ TA, TA = (tabL TT 32).toArray := ⟨_, rfl⟩
  rw [← hTA] at HT HB ⊢
  clear hTA
  obtain ⟨g, hg⟩ : ∃ g, g = w.heap.size := ⟨_, rfl⟩
  have HG := Go.Lib.hid hg
  clear hg
  go_enter Tryz.func16, Tryz.ntmps16
  go_wp2_with fail
  rw [← HG.out] at HT HB ⊢
  generalize w.alloc (.cells TA 33) = w1 at *
  go_loopw [3, 4] (fun kv bi wr => ∃ (b : Nat) (u : Value), u = kv ∧ b ≤ 8 ∧ bi = .int .i64 (b : Int) ∧ Hid (KS.O wr g u (keysT TT (4 * b)) ∧ okTo TT (4 * b) = true) ∧ Hid (TK wr g TT) ∧ Hid (Below g w wr)) (fun _ bi _ => 8 - (intOf bi).toNat)
  case atStart => exact ⟨0, _, rfl, by omega, rfl, Go.Lib.hid ⟨Lay.O.nil _ _, rfl⟩, HT, HB⟩
  case round =>
    obtain ⟨b, u, rfl, hb, rfl, HK, HT, HB⟩ := hrel
    by_cases hlt : b < 8
    · have hltI : (b : Int) < 8 := by omega
      go_wp2_with fail
      go_loopw [3, 5] (fun kv si wr => ∃ (s : Nat) (u : Value), u = kv ∧ s ≤ 4 ∧ si = .int .i64 (s : Int) ∧ Hid (KS.O wr g u (keysT TT (4 * b + s)) ∧ okTo TT (4 * b + s) = true) ∧ Hid (TK wr g TT) ∧ Hid (Below g w wr)) (fun _ si _ => 4 - (intOf si).toNat)
      case atStart => exact ⟨0, _, rfl, by omega, rfl, HK, HT, HB⟩
      case round =>
        obtain ⟨s, u, rfl, hs4, rfl, HK, HT, HB⟩ := hrel
        by_cases hslt : s < 4
        · have hsI : (s : Int) < 4 := by omega
          obtain ⟨c0, c1, c2, c3, c4, c5⟩ := HT.out.at hlt hslt
          have hix1 := idxT g b hlt
          have hix2 := idxT2 g (24 * b) s hslt
          have hsz := HS.out (4 * b + s) (by omega)
          have HBAD := Go.Lib.hid fun (h : okSlot TT (4 * b + s) = false) => okTo_bad (n := 32) h (by omega)
          have HOK := Go.Lib.hid fun (h : okSlot TT (4 * b + s) = true) => show okTo TT (4 * b + (s + 1)) = true from by rw [show 4 * b + (s + 1) = (4 * b + s) + 1 by omega, okTo_succ, HK.out.2, h]; rfl
          have HSL := Go.Lib.hid (show okSlot TT (4 * b + s) = _ from rfl)
          have HKN := Go.Lib.hid (show keysT TT (4 * b + (s + 1)) = keysT TT (4 * b + s) ++ (if (TT (4 * b + s)).1 then [(TT (4 * b + s)).2.1] else []) from keysT_succ TT (4 * b + s))
          have HKL := Go.Lib.hid (show (keysT TT (4 * b + s)).length ≤ 32 from by have := keysT_len TT (4 * b + s); omega)
          have HO := Go.Lib.hid HK.out.1
          rw [show okSlot TT (4 * b + s) = if (TT (4 * b + s)).1 then mayT (TT (4 * b + s)).2 && ((4 * b + s) / 4 == firstN (hR (TT (4 * b + s)).2) || (4 * b + s) / 4 == othN (firstN (hR (TT (4 * b + s)).2)) (tagN (hR (TT (4 * b + s)).2))) && !((keysT TT (4 * b + s)).any fun k => decide (k = (TT (4 * b + s)).2.1)) else decide ((TT (4 * b + s)).2 = nullR) from rfl, show (4 * b + s) / 4 = b by omega] at HBAD HOK
          clear HSL HK
          have HKN' := Go.Lib.hid HKN.out
          clear HKN
          generalize keysT TT (4 * b + s) = K at *
          generalize TT (4 * b + s) = y at *
          obtain ⟨hq, kx, gx, ax, nx, sx⟩ := y
          simp only [] at c0 c1 c2 c3 c4 c5 hsz HBAD HOK HKN'
          have hbA := below_one wr (.cells #[.bool hq, .string kx, .bool gx, .int .i64 ax, .int .i64 nx, .string sx] 30)
          have HX := Go.Lib.hid (heap_alloc_new wr (.cells #[.bool hq, .string kx, .bool gx, .int .i64 ax, .int .i64 nx, .string sx] 30))
          have HT2 := Go.Lib.hid (HT.out.below hbA)
          have HB2 := Go.Lib.hid (HB.out.trans (hbA.mono (by have := HB.out.size; have := HG.out; omega)))
          have HO2 := Go.Lib.hid (HO.out.below hbA)
          have CH := Go.Lib.hid fun W => rhash_k kx (hashS kx) rfl W (by omega)
          have CM := fun W => rmayrec_c kx gx ax nx sx W (by unfold maxLen; omega) (by unfold maxLen; omega)
          unfold recV at CM
          have HMT := Go.Lib.hid (show mayRec kx gx ax nx sx = mayT (kx, gx, ax, nx, sx) from rfl)
          rw [HMT.out] at CM
          have CM := Go.Lib.hid CM
          have HHR := Go.Lib.hid (show hR (kx, gx, ax, nx, sx) = hashS kx from rfl)
          rw [HHR.out] at HBAD HOK
          have HHL := Go.Lib.hid (hashS_lt kx)
          clear hbA hsz HT HB HO
          go_upto_region 9 with (fail)
          obtain ⟨g2, hg2⟩ : ∃ g, g = wr.heap.size := ⟨_, rfl⟩
          rw [← hg2] at HX ⊢
          clear hg2 c0 c1 c2 c3 c4 c5 hix1 hix2
          generalize wr.alloc (.cells #[.bool hq, .string kx, .bool gx, .int .i64 ax, .int .i64 nx, .string sx] 30) = w2 at *
          obtain ⟨x0, x1, x2, x3, x4, x5⟩ := row6 HX.out
          cases hq with
          | false => as_aux_lemma =>
            simp only [Bool.false_eq_true, if_false, List.append_nil] at HBAD HOK HKN'
            have CE := reqrec_c kx gx ax nx sx ⟨#[]⟩ false 0 0 ⟨#[]⟩ w2
            rw [show eqRec kx gx ax nx sx ⟨#[]⟩ false 0 0 ⟨#[]⟩ = decide ((kx, gx, ax, nx, sx) = nullR) from eqRec_iff (kx, gx, ax, nx, sx) nullR] at CE
            unfold recV at CE
            generalize decide ((kx, gx, ax, nx, sx) = nullR) = t at *
            have CE := Go.Lib.hid CE
            clear CM CH HMT HHR
            go_wp2_with fail
            refine CE.out.mono ?_
            rintro e w3 ⟨rfl, hc⟩
            have HT3 := Go.Lib.hid (HT2.out.below hc)
            have HB3 := Go.Lib.hid (HB2.out.trans (hc.mono (by have := HB2.out.size; have := HG.out; omega)))
            have HO3 := Go.Lib.hid (HO2.out.below hc)
            clear hc CE x0 x1 x2 x3 x4 x5
            cases t with
            | false =>
              have HE := Go.Lib.hid (HBAD.out rfl)
              go_wp2_with fail
              go_ret
              exact ⟨by rw [HE.out]; rfl, by rw [← HG.out]; exact HB3.out⟩
            | true =>
              have HE := Go.Lib.hid (HOK.out rfl)
              go_wp2_with fail
              exact ⟨⟨s + 1, _, rfl, by omega, by go_num, Go.Lib.hid ⟨by rw [HKN'.out]; exact HO3.out, HE.out⟩, HT3, HB3⟩, by simp only [intOf]; omega⟩
          | true =>
            simp only [if_true] at HBAD HOK HKN'
            go_wp2_with fail
            refine (CH.out _).mono ?_
            rintro e w3 ⟨rfl, hc⟩
            have HT3 := Go.Lib.hid (HT2.out.below hc)
            have HB3 := Go.Lib.hid (HB2.out.trans (hc.mono (by have := HB2.out.size; have := HG.out; omega)))
            have HO3 := Go.Lib.hid (HO2.out.below hc)
            have HX3 := Go.Lib.hid (row_kept HX.out hc)
            have CF := Go.Lib.hid (rfirst_c (hashS kx) w3 HHL.out)
            clear hc CH x0 x1 x2 x3 x4 x5 HX
            have HFL := Go.Lib.hid (first_lt (hashS kx))
            have HTL := Go.Lib.hid (tag_lt (hashS kx))
            go_wp2_with fail
            refine CF.out.mono ?_
            rintro e w4 ⟨rfl, rfl⟩
            obtain ⟨x0, x1, x2, x3, x4, x5⟩ := row6 HX3.out
            clear CF
            go_wp2_with fail
            refine (CM.out _).mono ?_
            rintro e w4 ⟨rfl, hc⟩
            have HT4 := Go.Lib.hid (HT3.out.below hc)
            have HB4 := Go.Lib.hid (HB3.out.trans (hc.mono (by have := HB3.out.size; have := HG.out; omega)))
            have HO4 := Go.Lib.hid (HO3.out.below hc)
            have HX4 := Go.Lib.hid (row_kept HX3.out hc)
            have CTG := Go.Lib.hid fun W => rtag_c (hashS kx) W HHL.out
            have COT := Go.Lib.hid fun W => rother_c (firstN (hashS kx) : Int) (tagN (hashS kx) : Int) W
            rw [otherI_nat HFL.out HTL.out] at COT
            clear hc CM x0 x1 x2 x3 x4 x5 HX3
            generalize mayT (kx, gx, ax, nx, sx) = m at *
            generalize othN (firstN (hashS kx)) (tagN (hashS kx)) = fo at *
            generalize firstN (hashS kx) = ff at *
            generalize tagN (hashS kx) = ft at *
            generalize hashS kx = hx at *
            cases m with
            | false =>
              as_aux_lemma =>
                have HE := Go.Lib.hid (HBAD.out rfl)
                go_wp2_with fail
                go_ret
                exact ⟨by rw [HE.out]; rfl, by rw [← HG.out]; exact HB4.out⟩
            | true =>
              simp only [Bool.true_and] at HBAD HOK
              by_cases hbf : b = ff
              · have hbf1 : ((b : Int) == (ff : Int)) = true := beq_iff_eq.2 (by omega)
                have hbf2 : ((b : Int) != (ff : Int)) = false := by simp [bne, hbf1]
                rw [show ((b == ff || b == fo)) = true from by simp [hbf], Bool.true_and] at HBAD HOK
                have HBF := Go.Lib.hid hbf
                clear hbf
                as_aux_lemma =>
                  go_wp2_with fail
                  clear hbf1 hbf2
                  have hform : ∃ a cap, u = .slice a K.length cap := by obtain ⟨a, cap, h, -⟩ := HO4.out.r.form; exact ⟨a, cap, h⟩
                  obtain ⟨ka, kc, rfl⟩ := hform
                  have hkl := HKL.out
                  go_loopw [9] (fun ii wr => ∃ i : Nat, i ≤ K.length ∧ ii = .int .i64 (i : Int) ∧ Hid (∀ j (hj : j < K.length), j < i → K[j] ≠ kx) ∧ Hid (Below w4.heap.size w4 wr)) (fun ii _ => K.length - (intOf ii).toNat)
                  case atStart => exact ⟨0, by omega, rfl, Go.Lib.hid fun j hj h => absurd h (by omega), Go.Lib.hid (Below.refl _ _)⟩
                  case round =>
                    obtain ⟨i, hi, rfl, HNO, HBI⟩ := hrel
                    by_cases hil : i < K.length
                    · obtain ⟨kb, ko, rfl, -, -, k0⟩ := KS.at' (HO4.out.r.below HBI.out) i hil
                      have hix := idxKS kb ko K.length kc i hil
                      obtain ⟨x0, x1, x2, x3, x4, x5⟩ := row6 (row_kept HX4.out HBI.out)
                      have HHIT := Go.Lib.hid (fun (h : K[i] = kx) => HBAD.out (show (!(K.any fun k => decide (k = kx))) = false from by rw [List.any_eq_true.2 ⟨K[i], List.getElem_mem hil, by simp [h]⟩]; rfl))
                      have HMISS := Go.Lib.hid (fun (h : K[i] ≠ kx) => show ∀ j (hj : j < K.length), j < i + 1 → K[j] ≠ kx from fun j hj hji => by
                        rcases Nat.lt_or_ge j i with h2 | h2
                        · exact HNO.out j hj h2
                        · obtain rfl : j = i := by omega
                          exact h)
                      clear HNO
                      generalize K[i] = ki at *
                      by_cases hq : ki.toList = kx.toList
                      · have hqb : (ki.toList == kx.toList) = true := beq_iff_eq.2 hq
                        have HE := Go.Lib.hid (HHIT.out (ByteArray.ext (Array.toList_inj.1 (by rw [← ByteArray.toList_eq, ← ByteArray.toList_eq]; exact hq))))
                        clear hq HHIT HMISS
                        go_upto_region 19 with (fail)
                        go_quiet (fail)
                        have HB9 := Go.Lib.hid (HB4.out.trans ((HBI.out.trans ((below_drewN (Below.refl _ _) nq).mono HBI.out.size)).mono (by have := HB4.out.size; have := HG.out; omega)))
                        go_wp2_with fail
                        go_ret
                        exact ⟨by rw [HE.out]; rfl, by rw [← HG.out]; exact HB9.out⟩
                      · have hqb : (ki.toList == kx.toList) = false := beq_eq_false_iff_ne.2 hq
                        have HN := Go.Lib.hid (HMISS.out (fun e => hq (by rw [e])))
                        clear hq HHIT HMISS
                        go_upto_region 19 with (fail)
                        go_quiet (fail)
                        have HB9 := Go.Lib.hid (HBI.out.trans ((below_drewN (Below.refl _ _) nq).mono HBI.out.size))
                        clear k0 hix x0 x1 x2 x3 x4 x5
                        generalize wr.drewN nq = w9 at *
                        go_wp2_with fail
                        exact ⟨⟨i + 1, by omega, by go_num, HN, HB9⟩, by simp only [intOf]; omega⟩
                    · obtain rfl : i = K.length := by omega
                      have HE := Go.Lib.hid (HOK.out (show (!(K.any fun k => decide (k = kx))) = true from by
                        rw [Bool.not_eq_true']
                        rw [Bool.eq_false_iff]
                        intro hc
                        obtain ⟨k, hkm, hke⟩ := List.any_eq_true.1 hc
                        obtain ⟨j, hj, rfl⟩ := List.getElem_of_mem hkm
                        exact HNO.out j hj hj (of_decide_eq_true hke)))
                      have hb9 := below_one wr (.cells #[.string kx] 9)
                      have HBX := Go.Lib.hid (HBI.out.trans (hb9.mono HBI.out.size))
                      have HO9 := Go.Lib.hid (HO4.out.below HBX.out)
                      have HT9 := Go.Lib.hid (HT4.out.below HBX.out)
                      have HB9 := Go.Lib.hid (HB4.out.trans (HBX.out.mono (by have := HB4.out.size; have := HG.out; omega)))
                      have HON := Go.Lib.hid (KS.one' wr kx)
                      obtain ⟨x0, x1, x2, x3, x4, x5⟩ := row6 (row_kept HX4.out HBI.out)
                      clear hb9 HNO
                      go_wp2_with (first
                        | (with_reducible show wpList _ _ _ (⟨some 73, _, _, _, _, _⟩ :: _) _ _; go_loud (refine KS_ok.append rfl (.tmp 68) (.tmp 72) rfl g (.slice ka K.length kc) (.slice (some ⟨wr.heap.size, 0, none⟩) 1 1) K [kx] rfl rfl HO9.out HON.out (by have := HKL.out; simp; omega) (by have := HB9.out.size; have := HG.out; omega) ?_); intro v10 w10 ho10 hg10)
                        | fail)
                      have HO10 := Go.Lib.hid ho10
                      have HT10 := Go.Lib.hid (HT9.out.same (hg10.block g HT9.out.lt (fun e => tab_not_key HT9.out HO9.out e.symm)))
                      have HB10 := Go.Lib.hid (HB9.out.grown hg10 (by have := HB9.out.size; have := HG.out; omega) (fun j hj => HO9.out.row j hj))
                      clear ho10 hg10
                      go_wp2_with fail
                      exact ⟨⟨s + 1, _, rfl, by omega, by go_num, Go.Lib.hid ⟨by rw [HKN'.out]; exact HO10.out, HE.out⟩, HT10, HB10⟩, by simp only [intOf]; omega⟩
              · have hbf1 : ((b : Int) == (ff : Int)) = false := beq_eq_false_iff_ne.2 (by omega)
                have hbf2 : ((b : Int) != (ff : Int)) = true := by simp [bne, hbf1]
                by_cases hbo : b = fo
                · have hbo1 : ((b : Int) == (fo : Int)) = true := beq_iff_eq.2 (by omega)
                  have hbo2 : ((b : Int) != (fo : Int)) = false := by simp [bne, hbo1]
                  rw [show ((b == ff || b == fo)) = true from by simp [hbo], Bool.true_and] at HBAD HOK
                  have HBF := Go.Lib.hid hbo
                  clear hbf hbo
                  go_wp2_with fail
                  refine (CTG.out _).mono ?_
                  rintro e w5 ⟨rfl, rfl⟩
                  go_wp2_with fail
                  refine (COT.out _).mono ?_
                  rintro e w5 ⟨rfl, rfl⟩
                  as_aux_lemma =>
                    go_wp2_with fail
                    clear hbf1 hbf2
                    have hform : ∃ a cap, u = .slice a K.length cap := by obtain ⟨a, cap, h, -⟩ := HO4.out.r.form; exact ⟨a, cap, h⟩
                    obtain ⟨ka, kc, rfl⟩ := hform
                    have hkl := HKL.out
                    go_loopw [9] (fun ii wr => ∃ i : Nat, i ≤ K.length ∧ ii = .int .i64 (i : Int) ∧ Hid (∀ j (hj : j < K.length), j < i → K[j] ≠ kx) ∧ Hid (Below w4.heap.size w4 wr)) (fun ii _ => K.length - (intOf ii).toNat)
                    case atStart => exact ⟨0, by omega, rfl, Go.Lib.hid fun j hj h => absurd h (by omega), Go.Lib.hid (Below.refl _ _)⟩
                    case round =>
                      obtain ⟨i, hi, rfl, HNO, HBI⟩ := hrel
                      by_cases hil : i < K.length
                      · obtain ⟨kb, ko, rfl, -, -, k0⟩ := KS.at' (HO4.out.r.below HBI.out) i hil
                        have hix := idxKS kb ko K.length kc i hil
                        obtain ⟨x0, x1, x2, x3, x4, x5⟩ := row6 (row_kept HX4.out HBI.out)
                        have HHIT := Go.Lib.hid (fun (h : K[i] = kx) => HBAD.out (show (!(K.any fun k => decide (k = kx))) = false from by rw [List.any_eq_true.2 ⟨K[i], List.getElem_mem hil, by simp [h]⟩]; rfl))
                        have HMISS := Go.Lib.hid (fun (h : K[i] ≠ kx) => show ∀ j (hj : j < K.length), j < i + 1 → K[j] ≠ kx from fun j hj hji => by
                          rcases Nat.lt_or_ge j i with h2 | h2
                          · exact HNO.out j hj h2
                          · obtain rfl : j = i := by omega
                            exact h)
                        clear HNO
                        generalize K[i] = ki at *
                        by_cases hq : ki.toList = kx.toList
                        · have hqb : (ki.toList == kx.toList) = true := beq_iff_eq.2 hq
                          have HE := Go.Lib.hid (HHIT.out (ByteArray.ext (Array.toList_inj.1 (by rw [← ByteArray.toList_eq, ← ByteArray.toList_eq]; exact hq))))
                          clear hq HHIT HMISS
                          go_upto_region 19 with (fail)
                          go_quiet (fail)
                          have HB9 := Go.Lib.hid (HB4.out.trans ((HBI.out.trans ((below_drewN (Below.refl _ _) nq).mono HBI.out.size)).mono (by have := HB4.out.size; have := HG.out; omega)))
                          go_wp2_with fail
                          go_ret
                          exact ⟨by rw [HE.out]; rfl, by rw [← HG.out]; exact HB9.out⟩
                        · have hqb : (ki.toList == kx.toList) = false := beq_eq_false_iff_ne.2 hq
                          have HN := Go.Lib.hid (HMISS.out (fun e => hq (by rw [e])))
                          clear hq HHIT HMISS
                          go_upto_region 19 with (fail)
                          go_quiet (fail)
                          have HB9 := Go.Lib.hid (HBI.out.trans ((below_drewN (Below.refl _ _) nq).mono HBI.out.size))
                          clear k0 hix x0 x1 x2 x3 x4 x5
                          generalize wr.drewN nq = w9 at *
                          go_wp2_with fail
                          exact ⟨⟨i + 1, by omega, by go_num, HN, HB9⟩, by simp only [intOf]; omega⟩
                      · obtain rfl : i = K.length := by omega
                        have HE := Go.Lib.hid (HOK.out (show (!(K.any fun k => decide (k = kx))) = true from by
                          rw [Bool.not_eq_true']
                          rw [Bool.eq_false_iff]
                          intro hc
                          obtain ⟨k, hkm, hke⟩ := List.any_eq_true.1 hc
                          obtain ⟨j, hj, rfl⟩ := List.getElem_of_mem hkm
                          exact HNO.out j hj hj (of_decide_eq_true hke)))
                        have hb9 := below_one wr (.cells #[.string kx] 9)
                        have HBX := Go.Lib.hid (HBI.out.trans (hb9.mono HBI.out.size))
                        have HO9 := Go.Lib.hid (HO4.out.below HBX.out)
                        have HT9 := Go.Lib.hid (HT4.out.below HBX.out)
                        have HB9 := Go.Lib.hid (HB4.out.trans (HBX.out.mono (by have := HB4.out.size; have := HG.out; omega)))
                        have HON := Go.Lib.hid (KS.one' wr kx)
                        obtain ⟨x0, x1, x2, x3, x4, x5⟩ := row6 (row_kept HX4.out HBI.out)
                        clear hb9 HNO
                        go_wp2_with (first
                          | (with_reducible show wpList _ _ _ (⟨some 73, _, _, _, _, _⟩ :: _) _ _; go_loud (refine KS_ok.append rfl (.tmp 68) (.tmp 72) rfl g (.slice ka K.length kc) (.slice (some ⟨wr.heap.size, 0, none⟩) 1 1) K [kx] rfl rfl HO9.out HON.out (by have := HKL.out; simp; omega) (by have := HB9.out.size; have := HG.out; omega) ?_); intro v10 w10 ho10 hg10)
                          | fail)
                        have HO10 := Go.Lib.hid ho10
                        have HT10 := Go.Lib.hid (HT9.out.same (hg10.block g HT9.out.lt (fun e => tab_not_key HT9.out HO9.out e.symm)))
                        have HB10 := Go.Lib.hid (HB9.out.grown hg10 (by have := HB9.out.size; have := HG.out; omega) (fun j hj => HO9.out.row j hj))
                        clear ho10 hg10
                        go_wp2_with fail
                        exact ⟨⟨s + 1, _, rfl, by omega, by go_num, Go.Lib.hid ⟨by rw [HKN'.out]; exact HO10.out, HE.out⟩, HT10, HB10⟩, by simp only [intOf]; omega⟩
                · have hbo1 : ((b : Int) == (fo : Int)) = false := beq_eq_false_iff_ne.2 (by omega)
                  have hbo2 : ((b : Int) != (fo : Int)) = true := by simp [bne, hbo1]
                  have HE := Go.Lib.hid (HBAD.out (by simp [hbf, hbo]))
                  clear hbf hbo
                  go_wp2_with fail
                  refine (CTG.out _).mono ?_
                  rintro e w5 ⟨rfl, rfl⟩
                  go_wp2_with fail
                  refine (COT.out _).mono ?_
                  rintro e w5 ⟨rfl, rfl⟩
                  go_wp2_with fail
                  go_ret
                  exact ⟨by rw [HE.out]; rfl, by rw [← HG.out]; exact HB4.out⟩
        · obtain rfl : s = 4 := by omega
          go_wp2_with fail
          exact ⟨⟨b + 1, _, rfl, by omega, by go_num, HK, HT, HB⟩, by simp only [intOf]; omega⟩
    · obtain rfl : b = 8 := by omega
      have HE := Go.Lib.hid HK.out.2
      go_wp2_with fail
      go_ret
      exact ⟨by rw [HE.out]; rfl, by have := HB.out; rw [HG.out] at this; exact this⟩

end Go.Proofs.YthbnecdeebmlhaaGreat

namespace Go.Proofs.YthbnecdeebmlhaaGreat
open Go.RowKit

set_option maxHeartbeats 2000000 in
set_option maxRecDepth 100000 in
theorem rrecs_c (TT : TabT) (w : World) :
    Calls Tryz.prog 36 #[.agg (tabL TT 32).toArray] w fun e w' => ∃ v', e = .returned v' ∧ OwnRec w' w.heap.size v' (newestR (recsT TT 32)) ∧ Below w.heap.size w w' := by
  have HT := Go.Lib.hid (TK.new w TT)
  have HB := Go.Lib.hid (below_one w (.cells (tabL TT 32).toArray 33))
  obtain ⟨TA, hTA⟩ : ∃ TA, TA = (tabL TT 32).toArray := ⟨_, rfl⟩
  rw [← hTA] at HT HB ⊢
  clear hTA
  obtain ⟨g, hg⟩ : ∃ g, g = w.heap.size := ⟨_, rfl⟩
  have HG := Go.Lib.hid hg
  clear hg
  go_enter Tryz.func36, Tryz.ntmps36
  go_wp2_with fail
  rw [← HG.out] at HT HB ⊢
  generalize w.alloc (.cells TA 33) = w1 at *
  go_loopw [3, 4] (fun lv ii wr => ∃ (i : Nat) (u : Value), u = lv ∧ i ≤ 32 ∧ ii = .int .i64 (i : Int) ∧ Hid (OwnRec wr g u (newestR (recsT TT i))) ∧ Hid (TK wr g TT) ∧ Hid (Below g w wr)) (fun _ ii _ => 32 - (intOf ii).toNat)
  case atStart => exact ⟨0, _, rfl, by omega, rfl, Go.Lib.hid (OwnRec.nil _ _), HT, HB⟩
  case round =>
    obtain ⟨i, u, rfl, hi, rfl, HO, HT, HB⟩ := hrel
    by_cases hlt : i < 32
    · have hltI : (i : Int) < 32 := by omega
      obtain ⟨D, hD⟩ : ∃ D, D = i / 4 := ⟨_, rfl⟩
      obtain ⟨R, hR⟩ : ∃ R, R = i % 4 := ⟨_, rfl⟩
      have d1 : (i : Int).tdiv 4 = (D : Int) := by rw [Int.tdiv_eq_ediv_of_nonneg (by omega)]; omega
      have r1 : (i : Int).tmod 4 = (R : Int) := by rw [Int.tmod_eq_emod_of_nonneg (by omega)]; omega
      have hD8 : D < 8 := by omega
      have hR4 : R < 4 := by omega
      obtain ⟨c0, c1, c2, c3, c4, c5⟩ := HT.out.at hD8 hR4
      rw [show 4 * D + R = i by omega] at c0 c1 c2 c3 c4 c5
      have hix1 := idxT g D hD8
      have hix2 := idxT2 g (24 * D) R hR4
      have HRN := Go.Lib.hid (recsT_succ TT i)
      have HLN := Go.Lib.hid (show (newestR (recsT TT i)).length ≤ 1000 from by have := newestR_len (recsT TT i); have := recsT_len TT i; omega)
      have HSN := Go.Lib.hid (newest_snoc (recsT TT i) (TT i).2)
      clear hD hR
      generalize TT i = y at *
      obtain ⟨hq, kx, gx, ax, nx, sx⟩ := y
      simp only [] at c0 c1 c2 c3 c4 c5 HRN HSN
      cases hq with
      | false =>
        simp only [Bool.false_eq_true, if_false, List.append_nil] at HRN
        go_wp2_with fail
        exact ⟨⟨i + 1, _, rfl, by omega, by go_num, by rw [HRN.out]; exact HO, HT, HB⟩, by simp only [intOf]; omega⟩
      | true =>
        simp only [if_true] at HRN
        have CS := rset_c u (newestR (recsT TT i)) kx gx ax nx sx wr HO.out.rs HLN.out
        rw [← HSN.out, ← HRN.out] at CS
        unfold recV at CS
        have CS := Go.Lib.hid CS
        go_wp2_with fail
        refine CS.out.mono ?_
        rintro e w2 ⟨v2, rfl, ho, hb⟩
        have hsz : g ≤ wr.heap.size := by have := HB.out.size; have := HG.out; omega
        have HO2 := Go.Lib.hid (ho.mono hsz)
        have HT2 := Go.Lib.hid (HT.out.below hb)
        have HB2 := Go.Lib.hid (HB.out.trans (hb.mono hsz))
        clear ho hb hsz CS c0 c1 c2 c3 c4 c5 hix1 hix2
        go_wp2_with fail
        exact ⟨⟨i + 1, _, rfl, by omega, by go_num, HO2, HT2, HB2⟩, by simp only [intOf]; omega⟩
    · obtain rfl : i = 32 := by omega
      go_wp2_with fail
      go_ret
      exact ⟨_, rfl, by rw [← HG.out]; exact HO.out, by rw [← HG.out]; exact HB.out⟩

end Go.Proofs.YthbnecdeebmlhaaGreat

namespace Go.Proofs.YthbnecdeebmlhaaGreat
open Go.RowKit

/-- What a value holds. -/
inductive VI where
  | none
  | num (n : Int)
  | text (s : ByteArray)
def VI.v : VI → Value
  | .none => .nilIface
  | .num n => .iface 195 (.int .i64 n)
  | .text s => .iface 196 (.string s)
def VI.val (x : VI) : Value := .agg #[x.v]
def ofR (k n : Int) (s : ByteArray) : VI := if mayR k n s then (if k = 1 then .num n else .text s) else .none

end Go.Proofs.YthbnecdeebmlhaaGreat

namespace Go.Proofs.YthbnecdeebmlhaaGreat
open Go.RowKit

/-- Does t begin with p? -/
theorem prefix_eq (s t : ByteArray) : ((s.extract 0 t.size).toList == t.toList) = (bl t).isPrefixOf (bl s) := by
  rw [Bool.eq_iff_iff, beq_iff_eq, List.isPrefixOf_iff_prefix, List.prefix_iff_eq_take, ByteArray.toList_eq, ByteArray.toList_eq, Go.Lib.extract_data]
  unfold bl
  rw [← Go.Lib.size_eq]
  simp
  exact eq_comm

set_option maxRecDepth 100000 in
theorem lprefix_c (s t : ByteArray) (w : World) (_hm : s.size ≤ maxLen) :
    Calls Tryz.prog 181 #[.string s, .string t] w fun e w' => e = .returned (.bool ((bl t).isPrefixOf (bl s))) ∧ w = w' := by
  have hm := _hm
  unfold maxLen at hm
  by_cases h : t.size ≤ s.size
  · have hp := Go.Lib.hid (prefix_eq s t)
    go_enter Tryz.func181, Tryz.ntmps181
    go_wp2
    go_ret
    exact ⟨ret_of (congrArg Value.bool hp.out), rfl⟩
  · have hp : (bl t).isPrefixOf (bl s) = false := by
      cases hx : (bl t).isPrefixOf (bl s) with
      | false => rfl
      | true =>
        rw [List.isPrefixOf_iff_prefix] at hx
        have := hx.length_le
        rw [← bl_size, ← bl_size] at this
        exact absurd this h
    have hp := Go.Lib.hid hp
    go_enter Tryz.func181, Tryz.ntmps181
    go_wp2
    go_ret
    exact ⟨ret_of (congrArg Value.bool hp.out.symm), rfl⟩

theorem prefix_c (s t : ByteArray) (w : World) (hm : s.size ≤ maxLen) :
    Calls Tryz.prog 175 #[.string s, .string t] w fun e w' => e = .returned (.bool ((bl t).isPrefixOf (bl s))) ∧ w = w' := by
  have C := Go.Lib.hid (lprefix_c s t w hm)
  go_enter Tryz.func175, Tryz.ntmps175
  go_wp2_with (refine C.out.mono ?_; rintro e w1 ⟨rfl, rfl⟩)
  go_ret
  exact ⟨rfl, rfl⟩

end Go.Proofs.YthbnecdeebmlhaaGreat

namespace Go.Proofs.YthbnecdeebmlhaaGreat
open Go.RowKit

set_option maxRecDepth 100000 in
theorem valid_c (s : ByteArray) (w : World) (hm : s.size ≤ 1000000000) :
    Calls Tryz.prog 157 #[.string s] w fun e w' => e = .returned (.bool (wellB (toks (bl s)))) ∧ Below w.heap.size w w' := by
  have hl1 := toks_length (bl s)
  rw [← bl_size] at hl1
  obtain ⟨T, hT⟩ : ∃ T, T = (toks (bl s)).length := ⟨_, rfl⟩
  rw [← hT] at hl1
  have HT := Go.Lib.hid hT; clear hT
  go_enter Tryz.func157, Tryz.ntmps157
  go_wp2
  go_loopw [2] (fun _ wr => ∃ n : Nat, n ≤ T ∧ Hid (wellB ((toks (bl s)).take n) = true) ∧ wr.heap[w.heap.size]? = some (.stringIter s (posOf (bl s) n)) ∧ Below w.heap.size w wr) (fun _ wr => s.size - wr.iterPos w.heap.size)
  case atStart => exact ⟨0, by omega, rfl, World.iter_heap w s 0, (Below.refl _ w).alloc (Nat.le_refl _) _⟩
  case round =>
    obtain ⟨n, hn, hwell, hit, hbw⟩ := hrel
    by_cases hlt : n < T
    · have hT' : n < (toks (bl s)).length := by rw [← HT.out]; exact hlt
      obtain ⟨p1, p2, p3, p4⟩ := next_some s n hT'
      have hnx : ∀ ty, (Instr.next (.pointer (some ⟨w.heap.size, 0, none⟩)) true ty).run Tryz.prog wr = _ := fun ty => Go.Lib.run_next_any_at wr w.heap.size s _ ty hit p1
      rw [p3] at hnx
      rw [p2] at hnx
      have hit2 := Go.Lib.iterAt_heap wr w.heap.size s _ (posOf (bl s) (n + 1)) hit
      have hbw2 := below_iter hbw (Nat.le_refl _) s (posOf (bl s) (n + 1))
      have hwt := well_take (bl s) n hT'
      rw [hwell.out, Bool.true_and] at hwt
      have hmeas : Hid (s.size - posOf (bl s) (n + 1) < s.size - wr.iterPos w.heap.size) := by
        have := posOf_lt_succ (bl s) n hT'
        simp only [Hid, World.iterPos, hit]
        omega
      have hne := drop_ne (bl s) n hT'
      have hwf := well_false (bl s) n hT'
      have HP := fun W => prefix_c (s.extract (posOf (bl s) n) s.size) ⟨#[239, 191, 189]⟩ W (by simp [maxLen]; omega)
      rw [drop_bl] at HP
      have hle : posOf (bl s) n ≤ s.size := by omega
      clear p1 p2 p3 p4 hit hbw hwell
      have hof := okB_false (l := (bl s).drop (posOf (bl s) n))
      have hod : okB ((bl s).drop (posOf (bl s) n)) = (enc (dr ((bl s).drop (posOf (bl s) n)))).isPrefixOf ((bl s).drop (posOf (bl s) n)) := rfl
      generalize hL : (bl s).drop (posOf (bl s) n) = L at *
      generalize posOf (bl s) n = p at *
      have HP' := Go.Lib.hid HP; clear HP
      have Hwt := Go.Lib.hid hwt; clear hwt
      have Hwf := Go.Lib.hid hwf; clear hwf
      have Hod := Go.Lib.hid hod; clear hod
      have Hof := Go.Lib.hid hof; clear hof
      clear hL
      generalize wr.iterAt w.heap.size s (posOf (bl s) (n + 1)) = wi at hnx hit2 hbw2
      by_cases hr : dr L = 65533
      · rw [hr] at hnx
        have hpre : Hid ((bl ⟨#[239, 191, 189]⟩).isPrefixOf L = okB L) := by
          unfold Hid
          rw [Hod.out, hr, enc_bad]
          rfl
        cases ho : okB L with
        | true =>
          rw [ho] at hpre
          go_wp2_with (refine (HP'.out _).mono ?_; rintro e w1 ⟨rfl, rfl⟩; rw [hpre.out])
          go_roundw
          case rel => exact ⟨n + 1, by omega, Hwt.out.trans ho, hit2, hbw2⟩
          case measure => simp only [World.iterPos, hit2]; exact hmeas.out
        | false =>
          rw [ho] at hpre
          go_wp2_with (refine (HP'.out _).mono ?_; rintro e w1 ⟨rfl, rfl⟩; rw [hpre.out])
          go_ret
          exact ⟨ret_of (congrArg Value.bool (Hwf.out ho).symm), hbw2⟩
      · have ho : okB L = true := by
          cases ho : okB L with
          | true => rfl
          | false => exact absurd (Hof.out ho hne).1 hr
        have hr2 : ((dr L : Int) == 65533) = false := by
          rw [beq_eq_false_iff_ne]; omega
        generalize dr L = r at hnx hr2
        clear hr
        go_wp2
        go_roundw
        case rel => exact ⟨n + 1, by omega, Hwt.out.trans ho, hit2, hbw2⟩
        case measure => simp only [World.iterPos, hit2]; exact hmeas.out
    · have hend : ¬ posOf (bl s) n < s.size := by
        rw [posOf_all (bl s) n (by rw [← HT.out]; omega), bl_size]
        exact Nat.lt_irrefl _
      have hnx : ∀ ty, (Instr.next (.pointer (some ⟨w.heap.size, 0, none⟩)) true ty).run Tryz.prog wr = _ := fun ty => Go.Lib.run_next_end_at wr w.heap.size s _ ty hit hend
      have hall : Hid (wellB (toks (bl s)) = true) := by
        have := hwell.out
        rwa [List.take_of_length_le (by rw [← HT.out]; omega)] at this
      clear hend
      go_wp2
      go_ret
      exact ⟨ret_of (congrArg Value.bool hall.out.symm), hbw⟩

end Go.Proofs.YthbnecdeebmlhaaGreat

namespace Go.Proofs.YthbnecdeebmlhaaGreat
open Go.RowKit

set_option maxRecDepth 100000 in
theorem textMay_c (s : ByteArray) (w : World) : Calls Tryz.prog 139 #[.string s] w fun e w' => e = .returned (.bool (decide (s.size ≤ 24) && wellB (toks (bl s)))) ∧ Below w.heap.size w w' := by
  by_cases h : s.size ≤ 24
  · have C := Go.Lib.hid fun W => valid_c s W (by omega)
    go_enter Tryz.func139, Tryz.ntmps139
    go_wp2_with fail
    refine (C.out _).mono ?_
    rintro e w1 ⟨rfl, hb1⟩
    go_wp2_with fail
    go_ret
    exact ⟨ret_of (congrArg Value.bool (by simp [h])), hb1⟩
  · go_enter Tryz.func139, Tryz.ntmps139
    go_wp2_with fail
    go_ret
    exact ⟨ret_of (congrArg Value.bool (by simp)), Below.refl _ _⟩

end Go.Proofs.YthbnecdeebmlhaaGreat

namespace Go.Proofs.YthbnecdeebmlhaaGreat
open Go.RowKit

set_option maxRecDepth 100000 in
theorem lclone_c (s : ByteArray) (w : World) (hm : s.size ≤ 140737488355328) :
    Calls Tryz.prog 107 #[.string s] w fun e w' => e = .returned (.string s) ∧ Below w.heap.size w w' := by
  by_cases h0 : s.size = 0
  · have hs : s = ⟨#[]⟩ := ByteArray.ext (Array.eq_empty_of_size_eq_zero h0)
    subst hs
    go_enter Tryz.func107, Tryz.ntmps107
    go_wp2
    go_ret
    exact ⟨rfl, Below.refl _ _⟩
  · have hq : s.size = s.data.toList.length := Go.Lib.size_eq s
    have hco : Tryz.prog.cellsOf 5 = 1 := by kernel_rfl
    have hi1 : (Tryz.prog.info? 5).map (·.size) = some 1 := by kernel_rfl
    obtain ⟨i, hi, hz, hsize, hby⟩ := info_parts info8
    obtain ⟨row0, hrow0⟩ : ∃ r, r = madeCells (Value.int .u8 0).cells s.size := ⟨_, rfl⟩
    have hlen0 : row0.size = s.size := by rw [hrow0, size_madeCells]
    have mk : ∀ W : World, (Instr.makeSlice 47 (.int .i64 (s.size : Int)) (.int .i64 (s.size : Int))).run Tryz.prog W = .ok (.slice (some ⟨W.heap.size, 0, none⟩) s.size s.size) (W.alloc (.cells row0 5)) := by
      intro W
      have hr := run_make (P := Tryz.prog) W 47 5 i (.int .u8 0) Tryz.underlying47 hi hz .i64 .i64 (s.size : Int) (s.size : Int) (by omega) (by omega) (by rw [hby]; omega) (by omega)
      rw [hsize] at hr
      simpa [hrow0] using hr
    have new1 := heap_alloc_new w (.cells row0 5)
    have cp := Go.Lib.run_copy_row_string (P := Tryz.prog) (w.alloc (.cells row0 5)) 47 9 3 5 w.heap.size 0 s.size s.size s row0 5 Tryz.underlying47 hi1 new1 (Nat.le_refl _) (by omega)
    obtain ⟨row1, hrow1⟩ : ∃ r, r = (row0.toList.take 0 ++ Go.Lib.byteCells s.data.toList ++ row0.toList.drop (0 + s.size)).toArray := ⟨_, rfl⟩
    rw [← hrow1] at cp
    have hlist1 : row1.toList = Go.Lib.byteCells s.data.toList := by
      rw [hrow1]
      simp [hlen0]
    have hlen1 : row1.size = s.size := by rw [← Array.length_toList, hlist1, Go.Lib.byteCells_length, hq]
    have new2 := setRow_heap (w.alloc (.cells row0 5)) w.heap.size row0 row1 5 (0, 0) new1
    have us := Go.Lib.run_unsafeString_row (P := Tryz.prog) ((w.alloc (.cells row0 5)).setRow w.heap.size row1) 185 3 9 5 Tryz.underlying185 hco w.heap.size row1.size (by unfold World.shape?; rw [new2]) s.data.toList
      (by intro e; rw [e] at hq; exact h0 hq) (by omega) (by omega)
      (fun j x hx => Go.Lib.cells_of_row new2 row1.size j _ (by rw [List.take_of_length_le (by simp), hlist1]; simp [Go.Lib.byteCells, hx]))
    rw [← hq] at us
    clear hrow1 hrow0 hlen0 new1 new2 hlist1 hlen1 hq hco hi1 hi hz hsize hby
    go_enter Tryz.func107, Tryz.ntmps107
    go_wp2
    go_ret
    have b1 : Below w.heap.size w (w.alloc (.cells row0 5)) := (Below.refl _ w).alloc (Nat.le_refl _) _
    have b2 : Below w.heap.size (w.alloc (.cells row0 5)) ((w.alloc (.cells row0 5)).setRow w.heap.size row1) := ⟨rfl, rfl, rfl, by simp, fun k hk => setRow_other _ _ _ _ (by omega)⟩
    exact ⟨rfl, Go.Lib.below_freeze (b1.trans b2) (p := ⟨w.heap.size, 0, none⟩) (Nat.le_refl _) _⟩

theorem clone_c (s : ByteArray) (w : World) (hm : s.size ≤ 140737488355328) :
    Calls Tryz.prog 73 #[.string s] w fun e w' => e = .returned (.string s) ∧ Below w.heap.size w w' := by
  have C := Go.Lib.hid (lclone_c s w hm)
  go_enter Tryz.func73, Tryz.ntmps73
  go_wp2_with (refine C.out.mono ?_; rintro e w1 ⟨rfl, h1⟩)
  go_ret
  exact ⟨rfl, h1⟩

end Go.Proofs.YthbnecdeebmlhaaGreat

namespace Go.Proofs.YthbnecdeebmlhaaGreat
open Go.RowKit

/-- Two blocks of its own, whatever was made later. -/
theorem two_kept (w : World) (o1 o2 : Obj) (w1 : World) (hb : Below ((w.alloc o1).alloc o2).heap.size ((w.alloc o1).alloc o2) w1) :
    w1.heap[w.heap.size]? = some o1 ∧ w1.heap[w.heap.size + 1]? = some o2 ∧ Below w.heap.size w w1 := by
  have hlt0 : w.heap.size < ((w.alloc o1).alloc o2).heap.size := (Array.getElem?_eq_some_iff.1 (two_first w o1 o2)).1
  have hlt1 : w.heap.size + 1 < ((w.alloc o1).alloc o2).heap.size := (Array.getElem?_eq_some_iff.1 (heap_alloc2_new w o1 o2)).1
  exact ⟨(hb.block _ hlt0).trans (two_first w _ _), (hb.block _ hlt1).trans (heap_alloc2_new w _ _), (below_two w o1 o2).trans (hb.mono (below_two w _ _).size)⟩

/-- A row and one more are what is answered. -/
theorem results_row_one {P : Program} {fn : Func} {p u : Tmp} {ty : TypeId} (h : fn.results = #[.cell p ty, .tmp u]) (tmps : Array Value) (w : World) (g : Nat) (t : TypeId) (cs : Array Value) (fr : Nat × Nat) (d : TypeDesc)
    (hp : tmps.getD p undef = .pointer (some ⟨g, 0, none⟩)) (hg : w.heap[g]? = some (.cells cs t fr))
    (hu : P.underlying ty = some d) (hd : (match d with | .struct _ | .array _ _ => true | _ => false) = true) (hi : (P.info? ty).map (·.size) = some cs.size) :
    (results fn tmps).run P w = .ok (.tuple #[.agg cs, tmps.getD u undef]) w := by
  have hp' : tmps[p]?.getD undef = .pointer (some ⟨g, 0, none⟩) := by simpa using hp
  simp only [results, h]
  simp [Result.andThen, hp', asAddr, run_loadVar_row w g t ty cs fr d hg hu hd hi]

theorem store_vi (x : VI) (W : World) : (store ⟨W.heap.size, 0, none⟩ x.v).run Tryz.prog (W.alloc (.cells #[.nilIface] 174)) = .ok () (W.alloc (.cells #[x.v] 174)) := by
  cases x <;> simp [VI.v, go_sem]

/-- What 'Of' answers. -/
theorem ret_of_at {w w0 : World} {tmps : Array Value} {x : VI} {e : Int} {g : Nat} {fr : Nat × Nat} {v : Value}
    (hp : tmps.getD 2 undef = .pointer (some ⟨g, 0, none⟩)) (hg : w.heap[g]? = some (.cells #[x.v] 174 fr)) (h3 : tmps.getD 3 undef = .int .i64 e)
    (hr : .tuple #[x.val, .int .i64 e] = v) (hb : Below w0.heap.size w0 w) : bodyPost Tryz.prog Tryz.f121 (fun e w' => e = .returned v ∧ Below w0.heap.size w0 w') Exit.ret { tmps := tmps, defers := [] } w := by
  subst hr
  have h := results_row_one (P := Tryz.prog) (fn := Tryz.f121) (p := 2) (u := 3) (ty := 174) rfl tmps w g 174 #[x.v] fr _ hp hg Tryz.underlying174 rfl (by kernel_rfl)
  rw [h3] at h
  exact bodyPost_ret h rfl ⟨rfl, hb⟩

def ofV (k n : Int) (s : ByteArray) : Value := .tuple #[(ofR k n s).val, .int .i64 (if mayR k n s then 0 else 1)]

theorem of_bad {k n : Int} {s : ByteArray} (h : mayR k n s = false) : ofV k n s = .tuple #[VI.none.val, .int .i64 1] := by simp [ofV, ofR, h]
theorem of_num {n : Int} {s : ByteArray} (h : mayR 1 n s = true) : ofV 1 n s = .tuple #[(VI.num n).val, .int .i64 0] := by simp [ofV, ofR, h]
theorem of_text {n : Int} {s : ByteArray} (h : mayR 2 n s = true) : ofV 2 n s = .tuple #[(VI.text s).val, .int .i64 0] := by simp [ofV, ofR, h]

set_option maxRecDepth 100000 in
theorem vof_c (k n : Int) (s : ByteArray) (w : World) : Calls Tryz.prog 121 #[rawV k n s] w fun e w' => e = .returned (ofV k n s) ∧ Below w.heap.size w w' := by
  by_cases h1 : k = 1
  · subst h1
    by_cases h2 : s = ⟨#[]⟩
    · subst h2
      have hv := Go.Lib.hid (of_num (n := n) (s := ⟨#[]⟩) (by unfold mayR; simp))
      unfold rawV
      go_enter Tryz.func121, Tryz.ntmps121
      go_wp2_with fail
      exact ret_of_at (x := .num n) rfl (heap_alloc2_new ..) rfl hv.out.symm (below_two ..)
    · have h3 : Hid (mayR 1 n s = false) := by
        unfold Hid mayR
        rw [if_pos rfl, ByteArray.toList_eq]
        cases hl : s.data.toList with
        | nil => exact absurd (ByteArray.ext (Array.toList_inj.1 (by simpa using hl))) h2
        | cons a l => rfl
      have hv := Go.Lib.hid (of_bad h3.out)
      have h4 : (s.toList == []) = false := by
        have := h3.out
        unfold mayR at this
        rw [if_pos rfl] at this
        rw [← this]
        cases s.toList <;> rfl
      clear h3
      unfold rawV
      go_enter Tryz.func121, Tryz.ntmps121
      go_wp2_with fail
      exact ret_of_at (x := .none) rfl (heap_alloc2_new ..) rfl hv.out.symm (below_two ..)
  by_cases h2 : k = 2
  · subst h2
    by_cases h3 : n = 0
    · subst h3
      have C1 := Go.Lib.hid fun W => textMay_c s W
      have hv : Hid (ofV 2 0 s = if (decide (s.size ≤ 24) && wellB (toks (bl s))) = true then .tuple #[(VI.text s).val, .int .i64 0] else .tuple #[VI.none.val, .int .i64 1]) := by
        unfold Hid
        split
        · rename_i h
          exact of_text (by unfold mayR; simpa using h)
        · rename_i h
          exact of_bad (by unfold mayR; simpa using h)
      have hs : Hid ((decide (s.size ≤ 24) && wellB (toks (bl s))) = true → s.size ≤ 24) := by
        unfold Hid
        intro h
        rw [Bool.and_eq_true, decide_eq_true_eq] at h
        exact h.1
      generalize (decide (s.size ≤ 24) && wellB (toks (bl s))) = t at *
      unfold rawV
      go_enter Tryz.func121, Tryz.ntmps121
      go_wp2_with fail
      refine (C1.out _).mono ?_
      rintro e w1 ⟨rfl, hb1⟩
      obtain ⟨hA, hB, hbb⟩ := two_kept _ _ _ _ hb1
      have HB := Go.Lib.hid hB
      have x2 := cell_of_row w1 w.heap.size 2 _ _ _ hA
      simp only [List.getElem?_toArray, List.getElem?_cons_zero, List.getElem?_cons_succ] at x2
      clear hB hA hb1
      cases t with
      | true =>
        have hv2 := Go.Lib.hid (hv.out.trans (if_pos rfl)).symm
        have C2 := Go.Lib.hid fun W => clone_c s W (by have := hs.out rfl; omega)
        clear hs
        go_wp2_with fail
        refine (C2.out _).mono ?_
        rintro e w2 ⟨rfl, hb2⟩
        have hlt : w.heap.size + 1 < w1.heap.size := (Array.getElem?_eq_some_iff.1 HB.out).1
        have HB2 := Go.Lib.hid ((hb2.block _ hlt).trans HB.out)
        have hbb2 := hbb.trans (hb2.mono hbb.size)
        clear hb2 hlt x2 HB hbb
        go_wp2_with (first
          | (with_reducible show wpList _ _ _ (⟨none, Op.store 174 (.tmp 2) (.tmp 35), _, _, _, _⟩ :: _) _ _; go_loud (refine wpList_store_row rfl 174 (.tmp 2) (.tmp 35) rfl (w.heap.size + 1) #[.iface 196 (.string s)] rfl rfl 174 _ HB2.out (by kernel_rfl) rfl (by simp [Value.oneCell']) ?_))
          | fail)
        exact ret_of_at (x := .text s) rfl (setRow_heap _ _ _ _ _ (0, 0) HB2.out) rfl hv2.out (setRow_below _ hbb2 (by omega))
      | false =>
        have hv2 := Go.Lib.hid (hv.out.trans (if_neg (by decide))).symm
        clear x2 hs
        go_wp2_with (first
          | (with_reducible show wpList _ _ _ (⟨none, Op.store 174 (.tmp 2) (.tmp 36), _, _, _, _⟩ :: _) _ _; go_loud (refine wpList_store_row rfl 174 (.tmp 2) (.tmp 36) rfl (w.heap.size + 1) #[.nilIface] rfl rfl 174 _ HB.out (by kernel_rfl) rfl (by simp [Value.oneCell']) ?_))
          | fail)
        exact ret_of_at (x := .none) rfl (setRow_heap _ _ _ _ _ (0, 0) HB.out) rfl hv2.out (setRow_below _ hbb (by omega))
    · have hv := Go.Lib.hid (of_bad (k := 2) (n := n) (s := s) (by unfold mayR; simp [h3]))
      have h3' : (n == 0) = false := by simp [h3]
      unfold rawV
      go_enter Tryz.func121, Tryz.ntmps121
      go_wp2_with fail
      exact ret_of_at (x := .none) rfl (heap_alloc2_new ..) rfl hv.out.symm (below_two ..)
  · have hv := Go.Lib.hid (of_bad (k := k) (n := n) (s := s) (by unfold mayR; simp [h1, h2]))
    have h1' : (k == 1) = false := by simp [h1]
    have h2' : (k == 2) = false := by simp [h2]
    unfold rawV
    go_enter Tryz.func121, Tryz.ntmps121
    go_wp2_with fail
    exact ret_of_at (x := .none) rfl (heap_alloc2_new ..) rfl hv.out.symm (below_two ..)

end Go.Proofs.YthbnecdeebmlhaaGreat

namespace Go.Proofs.YthbnecdeebmlhaaGreat
open Go.RowKit Go.Op

set_option maxRecDepth 100000 in
theorem kmayL_c (s : ByteArray) (w : World) (hm : s.size ≤ maxLen) : Calls Tryz.prog 93 #[.string s] w fun e w' => e = .returned (.bool (mayK s)) ∧ Below w.heap.size w w' := by
  unfold maxLen at hm
  have hb := Below.refl w.heap.size w
  by_cases h1 : 1 ≤ s.size
  · by_cases h2 : s.size ≤ 16
    · go_enter Tryz.func93, Tryz.ntmps93
      go_wp2
      go_ret
      exact ⟨ret_of (congrArg Value.bool (by unfold mayK; simp [h1, h2]; try omega)), hb⟩
    · go_enter Tryz.func93, Tryz.ntmps93
      go_wp2
      go_ret
      exact ⟨ret_of (congrArg Value.bool (by unfold mayK; simp [h2]; try omega)), hb⟩
  · go_enter Tryz.func93, Tryz.ntmps93
    go_wp2
    go_ret
    exact ⟨ret_of (congrArg Value.bool (by unfold mayK; simp [h1]; try omega)), hb⟩

theorem kmay_c (s : ByteArray) (w : World) (hm : s.size ≤ 1000000) : Calls Tryz.prog 93 #[.string s] w fun e w' => e = .returned (.bool (mayK s)) ∧ Below w.heap.size w w' :=
  kmayL_c s w (by unfold maxLen; omega)

end Go.Proofs.YthbnecdeebmlhaaGreat

namespace Go.Proofs.YthbnecdeebmlhaaGreat
open Go.RowKit Go.Op

theorem ite_zero (k n : Int) (s : ByteArray) (W : World) :
    (if k = 0 then
      if n = 0 then
        if s.toList = [] then Result.ok (Next.value (Value.bool true)) W
        else Result.ok (Next.value (Value.bool false)) W
      else Result.ok (Next.value (Value.bool false)) W
    else Result.ok (Next.value (Value.bool false)) W) =
    Result.ok (Next.value (Value.bool (k == 0 && n == 0 && s.toList.isEmpty))) W := by
  by_cases h1 : k = 0 <;> by_cases h2 : n = 0 <;> by_cases h3 : s.toList = [] <;> simp [h1, h2, h3]

set_option maxRecDepth 100000 in
theorem valmay_c (key : ByteArray) (gone : Bool) (k n : Int) (s : ByteArray) (w : World) :
    Calls Tryz.prog 94 #[recV key gone k n s] w fun e w' => e = .returned (.bool (if gone then k == 0 && n == 0 && s.toList.isEmpty else mayR k n s)) ∧ Below w.heap.size w w' := by
  unfold recV
  have hb1 := below_one w (.cells #[.string key, .bool gone, .int .i64 k, .int .i64 n, .string s] 28)
  cases gone with
  | true =>
    have hz := fun W => ite_zero k n s W
    rw [if_pos rfl]
    generalize (k == 0 && n == 0 && s.toList.isEmpty) = t at *
    go_enter Tryz.func94, Tryz.ntmps94
    go_wp2_with fail
    go_ret
    exact ⟨rfl, hb1⟩
  | false =>
    rw [if_neg (by decide)]
    have C := Go.Lib.hid fun W => vof_c k n s W
    unfold ofV rawV VI.val at C
    obtain ⟨t, ht⟩ : ∃ t, t = mayR k n s := ⟨_, rfl⟩
    rw [← ht] at C ⊢
    clear ht
    go_enter Tryz.func94, Tryz.ntmps94
    go_wp2_with fail
    refine (C.out _).mono ?_
    rintro e w1 ⟨rfl, hb2⟩
    generalize ofR k n s = x at *
    have hst := store_vi x
    have hbb := hb1.trans (hb2.mono hb1.size)
    have hb3 := hbb.trans ((below_one w1 (.cells #[x.v] 174)).mono hbb.size)
    cases t with
    | true =>
      rw [if_pos rfl]
      go_wp2_with fail
      go_ret
      exact ⟨rfl, hb3⟩
    | false =>
      rw [if_neg (by decide)]
      go_wp2_with fail
      go_ret
      exact ⟨rfl, hb3⟩

set_option maxRecDepth 100000 in
theorem pmay_c (key : ByteArray) (gone : Bool) (k n : Int) (s : ByteArray) (w : World) (hk : key.size ≤ maxLen) (_hm : s.size ≤ maxLen) :
    Calls Tryz.prog 56 #[recV key gone k n s] w fun e w' => e = .returned (.bool (mayRec key gone k n s)) ∧ Below w.heap.size w w' := by
  have C1 := Go.Lib.hid fun W => kmayL_c key W hk
  have c2 := fun W => valmay_c key gone k n s W
  unfold recV at c2 ⊢
  have hv : mayRec key gone k n s = (mayK key && (if gone then k == 0 && n == 0 && s.toList.isEmpty else mayR k n s)) := rfl
  rw [hv]
  generalize (if gone then k == 0 && n == 0 && s.toList.isEmpty else mayR k n s) = t at *
  generalize mayK key = m at *
  have C2 := Go.Lib.hid c2
  clear c2 hv
  have hb1 := below_one w (.cells #[.string key, .bool gone, .int .i64 k, .int .i64 n, .string s] 28)
  have hA := heap_alloc_new w (.cells #[.string key, .bool gone, .int .i64 k, .int .i64 n, .string s] 28)
  cases m with
  | false =>
    go_enter Tryz.func56, Tryz.ntmps56
    go_wp2_with fail
    refine (C1.out _).mono ?_
    rintro e w1 ⟨rfl, hb2⟩
    have hbb := hb1.trans (hb2.mono hb1.size)
    go_wp2_with fail
    go_ret
    exact ⟨rfl, hbb⟩
  | true =>
    go_enter Tryz.func56, Tryz.ntmps56
    go_wp2_with fail
    refine (C1.out _).mono ?_
    rintro e w1 ⟨rfl, hb2⟩
    have hbb := hb1.trans (hb2.mono hb1.size)
    have hA := row_kept hA hb2
    obtain ⟨x0, x1, x2, x3, x4⟩ := row5 hA
    go_wp2_with fail
    refine (C2.out _).mono ?_
    rintro e w2 ⟨rfl, hb3⟩
    have hbb := hbb.trans (hb3.mono hbb.size)
    go_wp2_with fail
    go_ret
    exact ⟨by simp, hbb⟩

end Go.Proofs.YthbnecdeebmlhaaGreat

namespace Go.Proofs.YthbnecdeebmlhaaGreat
open Go.RowKit Go.Op

/-- Storing what stands there already leaves the world as it is. -/
theorem setCell_id {w : World} {b o : Nat} {cs : Array Value} {t : TypeId} {fr : Nat × Nat} {v : Value} (hg : w.heap[b]? = some (.cells cs t fr)) (hv : cs[o]? = some v) : w.setCell ⟨b, o, none⟩ v = w := by
  obtain ⟨hb, hg⟩ := Array.getElem?_eq_some_iff.1 hg
  obtain ⟨ho, hv⟩ := Array.getElem?_eq_some_iff.1 hv
  have hset : cs.setIfInBounds o v = cs := by
    rw [← hv]
    apply Array.ext
    · simp
    · intro i h1 h2
      rw [Array.getElem_setIfInBounds]
      split
      · rename_i h; subst h; rfl
      · rfl
  have : (w.setCell ⟨b, o, none⟩ v).heap = w.heap := by
    unfold World.setCell
    apply Array.ext
    · simp
    · intro i h1 h2
      simp only [Array.getElem_modify]
      by_cases hi : b = i
      · subst hi
        rw [if_pos rfl, hg]
        simp [hset]
      · rw [if_neg hi]
  have e : w.setCell ⟨b, o, none⟩ v = { w with heap := (w.setCell ⟨b, o, none⟩ v).heap } := rfl
  rw [e, this]

end Go.Proofs.YthbnecdeebmlhaaGreat

namespace Go.Proofs.YthbnecdeebmlhaaGreat
open Go.RowKit Go.Op

theorem ret_frec_at {w w0 : World} {tmps : Array Value} {key : ByteArray} {gone : Bool} {k n : Int} {s : ByteArray} {g : Nat} {fr : Nat × Nat}
    (hp : tmps.getD 2 undef = .pointer (some ⟨g, 0, none⟩)) (hg : w.heap[g]? = some (.cells #[.string key, .bool gone, .int .i64 k, .int .i64 n, .string s] 28 fr)) (hb : Below w0.heap.size w0 w) :
    bodyPost Tryz.prog Tryz.f44 (fun e w' => e = .returned (.agg #[.string key, .bool gone, .int .i64 k, .int .i64 n, .string s]) ∧ Below w0.heap.size w0 w') Exit.ret { tmps := tmps, defers := [] } w :=
  bodyPost_ret (results_cell_row (P := Tryz.prog) (fn := Tryz.f44) (p := 2) (ty := 28) rfl tmps w g 28 #[.string key, .bool gone, .int .i64 k, .int .i64 n, .string s] fr _ hp hg Tryz.underlying28 rfl (by kernel_rfl)) rfl ⟨rfl, hb⟩

set_option maxRecDepth 100000 in
theorem frec_c (key : ByteArray) (gone : Bool) (k n : Int) (s : ByteArray) (w : World) (hk : key.size ≤ 1000000) (hs : s.size ≤ 1000000) :
    Calls Tryz.prog 44 #[recV key gone k n s] w fun e w' => e = .returned (recV key gone k n s) ∧ Below w.heap.size w w' := by
  have C1 := Go.Lib.hid fun W => clone_c key W (by omega)
  have C2 := Go.Lib.hid fun W => clone_c s W (by omega)
  clear hk hs
  unfold recV
  have hbb := below_two w (.cells #[.string key, .bool gone, .int .i64 k, .int .i64 n, .string s] 28) (.cells #[.string ⟨#[]⟩, .bool false, .int .i64 0, .int .i64 0, .string ⟨#[]⟩] 28)
  have hA := two_first w (.cells #[.string key, .bool gone, .int .i64 k, .int .i64 n, .string s] 28) (.cells #[.string ⟨#[]⟩, .bool false, .int .i64 0, .int .i64 0, .string ⟨#[]⟩] 28)
  have hB := heap_alloc2_new w (.cells #[.string key, .bool gone, .int .i64 k, .int .i64 n, .string s] 28) (.cells #[.string ⟨#[]⟩, .bool false, .int .i64 0, .int .i64 0, .string ⟨#[]⟩] 28)
  go_enter Tryz.func44, Tryz.ntmps44
  go_wp2_with fail
  refine (C1.out _).mono ?_
  rintro e w1 ⟨rfl, hc⟩
  have hA := row_kept hA hc
  have hB := row_kept hB hc
  have hbb := hbb.trans (hc.mono hbb.size)
  obtain ⟨x0, x1, x2, x3, x4⟩ := row5 hA
  have hf := fun o => frozen_of_row w1 w.heap.size o _ _ hA
  have hi0 := setCell_id (o := 0) (v := .string key) hA rfl
  have hi4 := setCell_id (o := 4) (v := .string s) hA rfl
  clear C1 hc
  go_wp2_with fail
  refine (C2.out _).mono ?_
  rintro e w2 ⟨rfl, hc⟩
  have hA := row_kept hA hc
  have hB := row_kept hB hc
  have hbb := hbb.trans (hc.mono hbb.size)
  clear x0 x1 x2 x3 x4 hf hi0 hi4 C2
  obtain ⟨x0, x1, x2, x3, x4⟩ := row5 hA
  have hf := fun o => frozen_of_row w2 w.heap.size o _ _ hA
  have hi0 := setCell_id (o := 0) (v := .string key) hA rfl
  have hi4 := setCell_id (o := 4) (v := .string s) hA rfl
  have HB := Go.Lib.hid hB
  clear hB
  go_wp2_with (first
    | (with_reducible show wpList _ _ _ (⟨none, Op.store 28 (.tmp 2) (.tmp 13), _, _, _, _⟩ :: _) _ _; go_loud (refine wpList_store_row rfl 28 (.tmp 2) (.tmp 13) rfl (w.heap.size + 1) #[.string key, .bool gone, .int .i64 k, .int .i64 n, .string s] rfl rfl 28 _ HB.out (by kernel_rfl) rfl (rec_cells_one ..) ?_))
    | fail)
  exact ret_frec_at rfl (setRow_heap _ _ _ _ _ (0, 0) HB.out) (setRow_below _ hbb (by omega))

end Go.Proofs.YthbnecdeebmlhaaGreat
