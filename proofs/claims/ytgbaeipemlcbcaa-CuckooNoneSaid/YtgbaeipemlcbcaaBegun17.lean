/-
  Stage 17: the laws' begun.
-/
import Derived.Test.YtgbaeipemlcbcaaCucI
namespace Go.Proofs.Ytgbaeipemlcbcaa
open Go.RowKit

theorem Lay.O.off {α : Type} {K : Lay α} {w w' : World} {B d : Nat} {v : Value} {l : List α} (h : K.O w B v l) (ho : Off1 d w w') (hd : d < B) : K.O w' B v l :=
  h.same fun g cs hg hB _ => ho.block g (Array.getElem?_eq_some_iff.1 hg).1 (by omega)
theorem sorted_one {F G : List Int} (hF : F.Pairwise (· ≤ ·)) (hG : G.Pairwise (· ≤ ·)) (h : F.Perm G) : F = G :=
  List.Perm.eq_of_pairwise (le := (· ≤ ·)) (fun _a _b _ _ h1 h2 => Int.le_antisymm h1 h2) hF hG h

def en17 (k : Nat) : List EnT := (List.range k).map fun (i : Nat) => ((77, (i : Int)) : EnT)
theorem en17_len (k : Nat) : (en17 k).length = k := by simp [en17]
theorem en17_succ (k : Nat) : en17 (k + 1) = en17 k ++ [(77, (k : Int))] := by simp [en17, List.range_succ]
theorem room17 : ∀ k : Fin 8, roomB ((en17 k.val).map Prod.fst ++ [77]) = true := by decide +kernel
theorem full17 : roomB ((en17 8).map Prod.fst ++ [77]) = false := by decide +kernel
theorem more17 : roomB ((en17 8).map Prod.fst ++ [78]) = true := by decide +kernel
def es17 : List EnT := en17 8 ++ [(78, 9)]
def et17 : List EnT := es17.set 3 (77, 30)
def F17 : List Int := [0, 1, 2, 3, 4, 5, 6, 7]
def G17 : List Int := [0, 1, 2, 4, 5, 6, 7, 30]
theorem find17 : ((en17 8).filter fun e => nearN 77 e.1).map Prod.snd = F17 := by decide +kernel
theorem find17b : (et17.filter fun e => nearN 77 e.1).map Prod.snd = [0, 1, 2, 30, 4, 5, 6, 7] := by decide +kernel
theorem none17 : ∀ e ∈ et17, e.2 = 3 → nearN 77 e.1 = false := by decide +kernel
theorem F17_of {F : List Int} (h1 : F.Pairwise (· ≤ ·)) (h2 : F.Perm (((en17 8).filter fun e => nearN 77 e.1).map Prod.snd)) : F = F17 :=
  sorted_one h1 (by decide) (by rw [find17] at h2; exact h2)
theorem G17_of {F : List Int} (h1 : F.Pairwise (· ≤ ·)) (h2 : F.Perm ((et17.filter fun e => nearN 77 e.1).map Prod.snd)) : F = G17 :=
  sorted_one h1 (by decide) (by
    rw [find17b] at h2
    refine h2.trans (List.perm_iff_count.2 fun a => ?_)
    unfold G17
    simp only [List.count_cons, List.count_nil]
    omega)

set_option maxHeartbeats 1000000 in
set_option maxRecDepth 100000 in
theorem begun_c (w : World) : Calls Try.prog 7 #[] w fun e w' => e = .returned (.bool true) ∧ Below w.heap.size w w' := by
  go_enter Try.func7, Try.ntmps7
  go_wp2_with fail
  refine (cnew_c _).mono ?_
  rintro e w1 ⟨d, rfl, hd, hck, hc⟩
  have HB := Go.Lib.hid hc
  have HC := Go.Lib.hid hck
  clear hc hck
  go_wp2_with fail
  go_loopw [2] (fun iv wr => ∃ (k : Nat) (T : SlT), k ≤ 8 ∧ iv = .int .i64 (k : Int) ∧ CK wr d T ∧ Hid (Fits T (en17 k)) ∧ Below w.heap.size w wr) (fun iv _ => 8 - (intOf iv).toNat)
  case atStart => exact ⟨0, _, by omega, rfl, HC.out, Go.Lib.hid (Fits.empty fun _ _ => rfl), HB.out⟩
  case round =>
    obtain ⟨k, T, hk, rfl, hck, hft, hbc⟩ := hrel
    by_cases hk8 : k < 8
    · have hkI : (k : Int) < 8 := by omega
      have CI := Go.Lib.hid (cinsert_yes hck hft.out (x := 77) (i := (k : Int)) (by omega) (by unfold idOk; exact decide_eq_true (by omega)) (room17 ⟨k, hk8⟩))
      have HB := Go.Lib.hid hbc
      clear hck hft hbc
      go_wp2_with fail
      refine CI.out.mono ?_
      rintro e w2 ⟨rfl, ⟨T', hck', hft'⟩, ho⟩
      have HC := Go.Lib.hid hck'
      have HF := Go.Lib.hid (show Fits T' (en17 (k + 1)) by rw [en17_succ]; exact hft')
      have HB := Go.Lib.hid (HB.out.trans (ho.below hd HB.out.size))
      clear hck' hft' ho
      go_wp2_with fail
      go_roundw
      case rel => exact ⟨k + 1, T', by omega, by go_num, HC.out, HF, HB.out⟩
      case measure => simp only [intOf]; omega
    · obtain rfl : k = 8 := by omega
      have HC := Go.Lib.hid hck
      have HF := hft
      have HB := Go.Lib.hid hbc
      clear hck hft hbc hk8 hk
      go_wp2_with fail
      refine (cfind_c HC.out HF.out (x := 77) (by omega) (by rw [en17_len]; omega)).mono ?_
      rintro e w2 ⟨v, F, rfl, hown, hs, hp, hc⟩
      obtain rfl := F17_of hs hp
      have hdl := HC.out.lt
      have HO := Go.Lib.hid (hown.mono (show d + 1 ≤ wr.heap.size from hdl))
      have HC := Go.Lib.hid (HC.out.below hc)
      have HB := Go.Lib.hid (below_to HB.out (Nat.le_refl _) hc)
      obtain ⟨g, cg, rfl, -⟩ := HO.out.form (by decide)
      clear hown hs hp hc hdl
      go_wp2_with fail
      refine (cinsert_no HC.out HF.out (x := 77) (i := 8) (by omega) (by decide) (by rw [full17]; rfl)).mono ?_
      rintro e w3 ⟨rfl, hc⟩
      have HO := Go.Lib.hid (HO.out.below hc)
      have HC := Go.Lib.hid (HC.out.below hc)
      have HB := Go.Lib.hid (below_to HB.out (Nat.le_refl _) hc)
      clear hc
      go_wp2_with fail
      refine (cinsert_yes HC.out HF.out (x := 78) (i := 9) (by omega) (by decide) more17).mono ?_
      rintro e w4 ⟨rfl, ⟨T4, hck, hft⟩, ho⟩
      have HO := Go.Lib.hid (HO.out.off ho (Nat.lt_succ_self _))
      have HC := Go.Lib.hid hck
      have HF := Go.Lib.hid (show Fits T4 es17 from hft)
      have HB := Go.Lib.hid (HB.out.trans (ho.below hd HB.out.size))
      have hc3 : w4.cell? ⟨g, 3, none⟩ = some (.int .i64 3) := KI.cellO (s := 3) (y := 3) HO.out rfl
      have hix3 : ∀ W : World, (Instr.indexAt 38 (.slice (some ⟨g, 0, none⟩) 8 cg) (.int .i64 3)).run Try.prog W = .ok (.pointer (some ⟨g, 3, none⟩)) W := fun W => by simpa using idxI g 0 8 cg 3 (by omega) W
      have hF8 : F17.length = 8 := rfl
      rw [hF8]
      clear hck hft ho
      go_wp2_with fail
      refine (cset_yes HC.out HF.out (x := 77) (old := 3) (i := 30) (k := 3) (by omega) (by decide) (by decide) rfl (by decide +kernel)).mono ?_
      rintro e w5 ⟨rfl, ⟨T5, hck, hft⟩, ho⟩
      have HC := Go.Lib.hid hck
      have HF := Go.Lib.hid (show Fits T5 et17 from hft)
      have HB := Go.Lib.hid (HB.out.trans (ho.below hd HB.out.size))
      clear hck hft ho hc3 HO hix3 hF8
      go_wp2_with fail
      refine (cset_no HC.out HF.out (x := 77) (old := 3) (i := 31) (by omega) (by decide) (.inr none17)).mono ?_
      rintro e w6 ⟨rfl, hc⟩
      have HC := Go.Lib.hid (HC.out.below hc)
      have HB := Go.Lib.hid (below_to HB.out (Nat.le_refl _) hc)
      clear hc
      go_wp2_with fail
      have hlen := HF.out.length
      rw [show et17.length = 9 from rfl] at hlen
      have CL := clen_c HC.out
      rw [hlen] at CL
      have CL := Go.Lib.hid CL
      clear hlen
      refine CL.out.mono ?_
      rintro e w7 ⟨rfl, hc⟩
      have HC := Go.Lib.hid (HC.out.below hc)
      have HB := Go.Lib.hid (below_to HB.out (Nat.le_refl _) hc)
      clear hc CL
      go_wp2_with fail
      refine (cfind_c HC.out HF.out (x := 77) (by omega) (by decide)).mono ?_
      rintro e w8 ⟨v8, F8, rfl, hown, hs, hp, hc⟩
      obtain rfl := G17_of hs hp
      obtain ⟨g8, c8, rfl, -⟩ := hown.form (by decide)
      have HC := Go.Lib.hid (HC.out.below hc)
      have HB := Go.Lib.hid (below_to HB.out (Nat.le_refl _) hc)
      have hG8 : G17.length = 8 := rfl
      rw [hG8]
      clear hown hs hp hc
      go_wp2_with fail
      refine (cfind_c HC.out HF.out (x := 77) (by omega) (by decide)).mono ?_
      rintro e w9 ⟨v9, F9, rfl, hown, hs, hp, hc⟩
      obtain rfl := G17_of hs hp
      obtain ⟨g9, c9, rfl, -⟩ := hown.form (by decide)
      have HB := Go.Lib.hid (below_to HB.out (Nat.le_refl _) hc)
      have hc7 : w9.cell? ⟨g9, 7, none⟩ = some (.int .i64 30) := KI.cellO (s := 7) (y := 30) hown rfl
      have hix7 : ∀ W : World, (Instr.indexAt 38 (.slice (some ⟨g9, 0, none⟩) 8 c9) (.int .i64 7)).run Try.prog W = .ok (.pointer (some ⟨g9, 7, none⟩)) W := fun W => by simpa using idxI g9 0 8 c9 7 (by omega) W
      rw [hG8]
      clear hown hs hp hc hG8
      go_wp2_with fail
      go_ret
      exact ⟨rfl, HB.out⟩

end Go.Proofs.Ytgbaeipemlcbcaa
