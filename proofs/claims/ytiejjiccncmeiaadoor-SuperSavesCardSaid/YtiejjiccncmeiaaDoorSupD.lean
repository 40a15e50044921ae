/-
  The contracts of bytes.Equal and of super's decode.
-/
import Derived.Test.YtiejjiccncmeiaaDoorSupF
namespace Go.Proofs.YtiejjiccncmeiaaDoor
open Go.RowKit

theorem text_eql (a b : List UInt8) : ((str a).toList == (str b).toList) = decide (a = b) := by
  have e : ∀ l : List UInt8, (str l).toList = l := fun l => by rw [ByteArray.toList_eq]; simp [str]
  rw [e, e]
  by_cases h : a = b <;> simp [h]
set_option maxRecDepth 100000 in
theorem bequal_c (v u : Value) (l m : List UInt8) (w : World) (hv : RB w v l) (hu : RB w u m) : Calls Tryd.prog 32 #[v, u] w fun e w' => e = .returned (.bool (decide (l = m))) ∧ w = w' := by
  have HE := Go.Lib.hid (text_eql l m)
  have HV := Go.Lib.hid hv
  have HU := Go.Lib.hid hu
  clear hv hu
  go_enter Tryd.func32, Tryd.ntmps32
  go_wp2_with (first
    | (with_reducible show wpList _ _ _ (⟨some 6, _, _, _, _, _⟩ :: _) _ _; go_must (refine wpList_string_RB rfl (.tmp 5) 30 9 rfl 5 Tryd.underlying30 Tryd.underlying5 Tryd.underlying9 v l rfl HV.out ?_))
    | (with_reducible show wpList _ _ _ (⟨some 8, _, _, _, _, _⟩ :: _) _ _; go_must (refine wpList_string_RB rfl (.tmp 7) 30 9 rfl 5 Tryd.underlying30 Tryd.underlying5 Tryd.underlying9 u m rfl HU.out ?_))
    | fail)
  go_ret
  exact ⟨by rw [← HE.out]; rfl, rfl⟩

/-- v, a []byte that reads as l; its block, if it has bytes, is one of bytes. -/
def TX (w : World) (v : Value) (l : List UInt8) : Prop :=
  RB w v l ∧ (l ≠ [] → ∃ b o n cap cur fr, v = .slice (some ⟨b, o, none⟩) n cap ∧ w.heap[b]? = some (.cells cur 5 fr))
theorem TX.nil (w : World) : TX w (.slice none 0 0) [] := ⟨RB.nil w, fun h => absurd rfl h⟩
theorem Own.tx {w : World} {B : Nat} {v : Value} {l : List UInt8} (h : Own 5 w B v l) : TX w v l := by
  refine ⟨h.rb, fun hne => ?_⟩
  rcases h.2 with ⟨-, h0⟩ | ⟨g, cap, cur, rfl, -, hg, -⟩
  · exact absurd (List.eq_nil_of_length_eq_zero h0) hne
  · exact ⟨g, 0, _, cap, cur, _, rfl, hg⟩
theorem TX.below {w w' : World} {v : Value} {l : List UInt8} (h : TX w v l) (hb : Below w.heap.size w w') : TX w' v l := by
  refine ⟨h.1.below hb, fun hne => ?_⟩
  obtain ⟨b, o, n, cap, cur, fr, rfl, hg⟩ := h.2 hne
  exact ⟨b, o, n, cap, cur, fr, rfl, (hb.block b (Array.getElem?_eq_some_iff.1 hg).1).trans hg⟩
/-- A piece of a row of the call's own. -/
theorem Own.tx_cut {w : World} {B g cap : Nat} {l : List UInt8} (h : Own 5 w B (.slice (some ⟨g, 0, none⟩) l.length cap) l) (i j : Nat) (h0 : 0 < i) (hij : i ≤ j) (hj : j ≤ l.length) (hc : i < cap) : TX w (.slice (some ⟨g, i, none⟩) (j - i) (cap - i)) ((l.take j).drop i) := by
  have h1 := h.rb.cut i j hij hj
  have e : sliced (some ⟨g, 0, none⟩) i j cap 1 = .slice (some ⟨g, i, none⟩) (j - i) (cap - i) := by
    unfold sliced
    rw [if_neg (by omega)]
    simp [Addr.add, show i ≠ 0 from by omega]
  rw [e] at h1
  refine ⟨h1, fun _ => ?_⟩
  rcases h.2 with ⟨hn, -⟩ | ⟨g', cap', cur, hv, -, hg, -⟩
  · cases hn
  · simp only [Value.slice.injEq, Option.some.injEq, Addr.mk.injEq] at hv
    obtain ⟨⟨rfl, -, -⟩, -, -⟩ := hv
    exact ⟨g, i, _, _, cur, _, rfl, hg⟩

set_option maxHeartbeats 1000000 in
set_option maxRecDepth 100000 in
theorem sdecode_c (w : World) (B : Nat) (v : Value) (l : List UInt8) (h : Own 5 w B v l) (hl : l.length = 64) (hT : Tab w) :
    Calls Tryd.prog 28 #[v] w fun e w' => ∃ u, e = .returned (.tuple #[u, .int .i64 ((decS l).2 : Int)]) ∧ TX w' u (decS l).1 ∧ Below w.heap.size w w' := by
  obtain ⟨g, cap, rfl, hB, hg, hcl, hcm, -⟩ := h.form (by omega)
  rw [hl] at hcl
  have hrb := h.rb
  have c12 := h.cell 12 (by omega)
  obtain ⟨c, hc⟩ : ∃ c, c = (l.getD 12 0).toNat := ⟨_, rfl⟩
  have e12 : l.getD 12 0 = l[12] := by rw [List.getD_eq_getElem?_getD, List.getElem?_eq_getElem (by omega)]; rfl
  rw [← e12, ← hc] at c12
  have hc256 : c < 256 := by rw [hc]; exact UInt8.toNat_lt _
  have HC := Go.Lib.hid hc
  have H := Go.Lib.hid h
  have HL := Go.Lib.hid hl
  have HT := Go.Lib.hid hT
  have HB := Go.Lib.hid hB
  have hcapm : (cap : Int) ≤ 9223372036854775807 := by unfold maxLen at hcm; omega
  have hc12 : (64 : Int) ≤ (cap : Int) := by omega
  have hd : decS l = if c ≤ 40 ∧ getN ((l.take 12).drop 4) ≤ 1099511627776 ∧ l = encS ((l.take (13 + c)).drop 13) (getN ((l.take 12).drop 4)) then ((l.take (13 + c)).drop 13, getN ((l.take 12).drop 4)) else ([], 0) := by
    rw [hc]
    unfold decS
    rfl
  have HD := Go.Lib.hid hd
  clear hd hT hB hc h e12 hrb hcm
  rw [hl]
  by_cases h40 : c ≤ 40
  · have hx := H.out.tx_cut 13 (13 + c) (by omega) (by omega) (by omega) (by omega)
    rw [show 13 + c - 13 = c from by omega] at hx
    have hn := (H.out.tx_cut 4 12 (by omega) (by omega) (by omega) (by omega)).1
    have hN := getN_lt ((l.take 12).drop 4)
    have hNl : ((l.take 12).drop 4).length = 8 := by simp only [List.length_drop, List.length_take]; omega
    have hxl : ((l.take (13 + c)).drop 13).length = c := by simp only [List.length_drop, List.length_take]; omega
    have C1 := Go.Lib.hid (sget_c _ _ w hn (by omega))
    rw [hNl] at hN
    generalize getN ((l.take 12).drop 4) = N at C1 HD hN
    generalize (l.take (13 + c)).drop 13 = X at HD hx hxl
    have hN64 : N < 18446744073709551616 := hN
    have HX := Go.Lib.hid hx
    have HXl := Go.Lib.hid hxl
    have h40I : (c : Int) ≤ 40 := by omega
    clear hn hN hNl hx hxl hl hc256
    by_cases hNm : N ≤ 1099511627776
    · have C2 := Go.Lib.hid (sencode_c w _ X N HX.out.1 (by rw [HXl.out]; exact h40) hNm HT.out)
      have hNI : (N : Int) ≤ 1099511627776 := by omega
      clear hN64
      go_enter Tryd.func28, Tryd.ntmps28
      go_wp2_with fail
      refine C1.out.mono ?_
      rintro e w1 ⟨rfl, rfl⟩
      go_wp2_with fail
      refine C2.out.mono ?_
      rintro e w1 ⟨u, rfl, ho1, hb1⟩
      have C3 := Go.Lib.hid (bequal_c _ u l _ w1 (H.out.rb.below hb1) ho1.rb)
      have HX1 := Go.Lib.hid (HX.out.below hb1)
      have HB1 := Go.Lib.hid hb1
      clear ho1 hb1 C1 C2 HX
      rw [HL.out] at C3
      go_wp2_with fail
      refine C3.out.mono ?_
      rintro e w1' ⟨rfl, rfl⟩
      have hd := HD.out
      by_cases heq : l = encS X N
      · have hdec : decide (l = encS X N) = true := decide_eq_true heq
        rw [if_pos ⟨h40, hNm, heq⟩] at hd
        rw [hdec]
        have HDD := Go.Lib.hid hd
        clear HD hd hdec heq
        go_wp2_with fail
        go_ret2
        exact ⟨_, by rw [HDD.out]; rfl, by rw [HDD.out]; exact HX1.out, HB1.out⟩
      · have hdec : decide (l = encS X N) = false := decide_eq_false heq
        rw [if_neg (fun h => heq h.2.2)] at hd
        rw [hdec]
        have HDD := Go.Lib.hid hd
        clear HD hd hdec heq
        go_wp2_with fail
        go_ret2
        exact ⟨_, by rw [HDD.out]; rfl, by rw [HDD.out]; exact TX.nil _, HB1.out⟩
    · have hd := HD.out
      rw [if_neg (fun h => hNm h.2.1)] at hd
      rw [hd]
      clear HD hd
      have hNI : (1099511627776 : Int) < (N : Int) := by omega
      go_enter Tryd.func28, Tryd.ntmps28
      go_wp2_with fail
      refine C1.out.mono ?_
      rintro e w1 ⟨rfl, rfl⟩
      go_wp2_with fail
      go_ret2
      exact ⟨_, rfl, TX.nil _, Below.refl _ _⟩
  · have hd := HD.out
    rw [if_neg (fun h => h40 h.1)] at hd
    rw [hd]
    clear HD hd
    go_enter Tryd.func28, Tryd.ntmps28
    go_wp2_with fail
    go_ret2
    exact ⟨_, rfl, TX.nil _, Below.refl _ _⟩

end Go.Proofs.YtiejjiccncmeiaaDoor
