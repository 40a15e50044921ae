/-
  slices.symMergeCmpFunc at records, whole.
  A sort's row of any cells (the kit's SWK) as a row that a call made.
  Records: the newest ones, by rising keys (mathematics).
  First, Tag, Other: of the reference, of package hash.
  Mathematics of stage 17 (of no code): who lies where. A hash's two buckets, told as a pair; slots that hold just what is there; who has room.
  What elements of []rune and []int are.
  The contract of the reference's Runes.
  The reference's Hash, First, Tag, Other.
  The contract of runes.Count.
  The contract of runes.Of.
  The contracts of hash.Of, First, Tag, Other.
  Which record may be, of a record as one letter.
-/
import Derived.Test.YthbnecdeebmlhaaGreatM03
import Derived.Test.YthbnecdeebmlhaaGreatM01
import Derived.Shelf.SlSortCmp.KitK
import Derived.Sort.LotA
import Derived.Laws.BitsAllLaws
import Derived.Test.YthbnecdeebmlhaaGreatM02
namespace Go.Proofs.YthbnecdeebmlhaaGreat
open Go.RowKit Go.Sort

section
variable {w0 : World} {B g c : Nat}
set_option maxHeartbeats 32000000 in
set_option maxRecDepth 100000 in
theorem symmerge_c (n : Nat) (hsz : n ≤ 1000) : ∀ (N a m b : Nat) (d : Array RecT) (W : World), b - a ≤ N → a < m → m < b → b ≤ n → n = d.size → SortedIn ltR a m d → SortedIn ltR m b d → RW w0 B g c d W →
    Calls Tryz.prog 137 #[.slice (some ⟨g, 0, none⟩) n c, .int .i64 (a : Int), .int .i64 (m : Int), .int .i64 (b : Int), .func (.func 91) #[] #[]] W fun e w' => e = .returned (.tuple #[]) ∧ ∃ d', PermIn a b d d' ∧ SortedIn ltR a b d' ∧ RW w0 B g c d' w' := by
  intro N
  induction N with
  | zero =>
    intro a m b d W h0 h1 h2
    omega
  | succ N ih =>
    intro a m b d W h0 h1 h2 h3 hn S1 S2 R
    by_cases ha : m - a = 1
    · have h := symmerge_one (c := c) a m b W (by omega) h2 (by rw [← hn]; exact h3) (by rw [← hn]; exact hsz) R S2
      rw [← hn] at h
      exact h
    by_cases hb : b - m = 1
    · have h := symmerge_last (c := c) a m b W (by omega) (by omega) (by rw [← hn]; exact h3) (by rw [← hn]; exact hsz) R S1
      rw [← hn] at h
      exact h
    have IH := Go.Lib.hid ih
    have HR := Go.Lib.hid R
    have HS := Go.Lib.hid (And.intro S1 S2)
    have HN := Go.Lib.hid hn
    have eg : ∀ args w, (callFunc 91 args).run Tryz.prog w = .ok (.enter 91 args) w := enters_of Tryz.func91 (by kernel_rfl) rfl
    have mixed : Tryz.prog.follows .mixedOrders = true := by kernel_rfl
    have haI : ((m : Int) - (a : Int) == 1) = false := by rw [beq_eq_false_iff_ne]; omega
    have hbI : ((b : Int) - (m : Int) == 1) = false := by rw [beq_eq_false_iff_ne]; omega
    obtain ⟨D, hD⟩ : ∃ D : Nat, D = (a + b) / 2 := ⟨_, rfl⟩
    have hDI : ((a : Int) + (b : Int)) / 2 = (D : Int) := by omega
    have HD := Go.Lib.hid (show D = (a + b) / 2 ∧ 2 ≤ m - a ∧ 2 ≤ b - m by omega)
    have hDa : a < D := by omega
    have hDb : D < b := by omega
    have H0 := Go.Lib.hid h0
    clear ih R S1 S2 hn hD ha hb h0
    go_enter Tryz.func137, Tryz.ntmps137
    go_upto_if 140 with fail
    go_cut [20, 21] (fun vs vr wc => ∃ s0 r0 : Nat, vs = .int .i64 (s0 : Int) ∧ vr = .int .i64 (r0 : Int) ∧ a ≤ s0 ∧ s0 ≤ r0 ∧ r0 ≤ m ∧ r0 ≤ D ∧ D + m ≤ s0 + b ∧ Hid (s0 = a ∨ s0 + b = D + m) ∧ Hid (r0 = m ∨ r0 = D) ∧ wc = W)
    case first =>
      by_cases hm : D < m
      · have hmI : (D : Int) < (m : Int) := by omega
        go_wp2_with fail
        go_meet
        case rel => exact ⟨D + m - b, D, by congr 1; have := HD.out; omega, rfl, by have := HD.out; omega, by omega, by omega, Nat.le_refl _, by have := HD.out; omega, Go.Lib.hid (.inr (by have := HD.out; omega)), Go.Lib.hid (.inr rfl), rfl⟩
      · have hmI : ¬ (D : Int) < (m : Int) := by omega
        go_wp2_with fail
        go_meet
        case rel => exact ⟨a, m, rfl, rfl, Nat.le_refl _, by omega, Nat.le_refl _, by omega, by have := HD.out; omega, Go.Lib.hid (.inl rfl), Go.Lib.hid (.inl rfl), rfl⟩
    case rest =>
      obtain ⟨s0, r0, rfl, rfl, q1, q2, q3, q4, q5, HP0, HP1, rfl⟩ := hcut
      go_wp2_with fail
      go_loopw [20, 21] (fun vi vj wr => ∃ (i j : Nat), vi = .int .i64 (i : Int) ∧ vj = .int .i64 (j : Int) ∧ s0 ≤ i ∧ i ≤ j ∧ j ≤ r0 ∧ Hid (i = s0 ∨ ltR d[D + m - i]! d[i - 1]! = false) ∧ Hid (j = r0 ∨ ltR d[D + m - 1 - j]! d[j]! = true) ∧ Hid (RW w0 B g c d wr)) (fun vi vj _ => (intOf vj - intOf vi).toNat)
      case atStart => exact ⟨s0, r0, rfl, rfl, Nat.le_refl _, q2, Nat.le_refl _, Go.Lib.hid (.inl rfl), Go.Lib.hid (.inl rfl), HR⟩
      case round =>
        obtain ⟨i, j, rfl, rfl, hsi, hij, hjr, HL, HG, S⟩ := hrel
        by_cases hlt : i < j
        · obtain ⟨H, hH⟩ : ∃ H : Nat, H = (i + j) / 2 := ⟨_, rfl⟩
          have hHI : ((i : Int) + (j : Int)) / 2 = (H : Int) := by omega
          have hltI : (i : Int) < (j : Int) := by omega
          have hH1 : H < n := by omega
          have hH2 : H < j := by omega
          have hH3 : i ≤ H := by omega
          obtain ⟨E, hE⟩ : ∃ E : Nat, E = D + m - 1 - H := ⟨_, rfl⟩
          have hEI : (D : Int) + (m : Int) - 1 - (H : Int) = (E : Int) := by omega
          have hEw : IntKind.i64.wrap (E : Int) = (E : Int) := by rw [IntKind.wrap_i64]; omega
          have hE1 : E < n := by omega
          have hc := fun n' os' => sym_cmp wr d[E]! d[H]! n' os'
          have hS2 := Go.Lib.hid fun n' os' => S.out.grown n' os'
          have HLT := Go.Lib.hid (fun (h : ltR d[E]! d[H]! = true) => show H = r0 ∨ ltR d[D + m - 1 - H]! d[H]! = true from .inr (by rw [← hE]; exact h))
          have HGE := Go.Lib.hid (fun (h : ltR d[E]! d[H]! = false) => show H + 1 = s0 ∨ ltR d[D + m - (H + 1)]! d[H + 1 - 1]! = false from .inr (by rw [show D + m - (H + 1) = E by omega, Nat.add_sub_cancel]; exact h))
          have HZ := Go.Lib.hid (show ltR d[E]! d[H]! = decide (cmpK d[E]! d[H]! < 0) from rfl)
          generalize ltR d[E]! d[H]! = q at *
          generalize cmpK d[E]! d[H]! = z at *
          obtain ⟨xj0, xj1, xj2, xj3, xj4, xa0, xa1, xa2, xa3, xa4, j0, j1, j2, j3, j4, a0, a1, a2, a3, a4, hc⟩ := sym_two (P := fun X Y n' os' => Calls Tryz.prog 91 #[X, Y] (grow (wr.drewN n') os') fun e w'' => e = .returned (.int .i64 z) ∧ ∃ p : GrownBy, w'' = grow (wr.drewN p.n) p.os) S.out E H (by rw [← HN.out]; omega) (by rw [← HN.out]; omega) hc
          clear S hH hE
          have HQ := Go.Lib.hid (And.intro hsi (And.intro hij (And.intro hjr (And.intro hlt (And.intro hH2 hH3)))))
          by_cases hz : z < 0
          · have HQ1 := Go.Lib.hid (HLT.out (by rw [HZ.out]; exact decide_eq_true hz))
            have hd : (!decide (z < 0)) = false := by rw [decide_eq_true hz]; rfl
            go_wp2_with fail
            clear hsi hij hjr hlt hH2 hH3
            go_quiet_grown (first | (go_at_fn 91; exact hc.out _ _))
            clear j0 j1 j2 j3 j4 a0 a1 a2 a3 a4 hc
            go_wp2_with fail
            obtain ⟨hsi, hij, hjr, hlt, hH2, hH3⟩ := HQ.out
            go_roundw
            case rel => exact ⟨i, H, rfl, rfl, hsi, hH3, by omega, HL, Go.Lib.hid HQ1.out, hS2.out _ _⟩
            case measure => simp only [intOf]; omega
          · have HQ1 := Go.Lib.hid (HGE.out (by rw [HZ.out]; exact decide_eq_false hz))
            have hd : (!decide (z < 0)) = true := by rw [decide_eq_false hz]; rfl
            go_wp2_with fail
            clear hsi hij hjr hlt hH2 hH3
            go_quiet_grown (first | (go_at_fn 91; exact hc.out _ _))
            clear j0 j1 j2 j3 j4 a0 a1 a2 a3 a4 hc
            go_wp2_with fail
            obtain ⟨hsi, hij, hjr, hlt, hH2, hH3⟩ := HQ.out
            go_roundw
            case rel => exact ⟨H + 1, j, by go_num, rfl, by omega, by omega, hjr, Go.Lib.hid HQ1.out, HG, hS2.out _ _⟩
            case measure => simp only [intOf]; omega
        · obtain rfl : i = j := by omega
          have hltI : ¬ (i : Int) < (i : Int) := by omega
          obtain ⟨e, hee⟩ : ∃ e : Nat, e + i = D + m := ⟨D + m - i, by omega⟩
          have heI : (D : Int) + (m : Int) - (i : Int) = (e : Int) := by omega
          have hsm : i ≤ m := by omega
          have hme : m ≤ e := by omega
          have heb : e ≤ b := by omega
          have hai : a ≤ i := by omega
          have hiD : i ≤ D := by omega
          have hDe : D ≤ e := by omega
          have HHL := Go.Lib.hid (show a = i ∨ e = b ∨ ltR d[e]! d[i - 1]! = false by
            rcases HL.out with h | h
            · rcases HP0.out with h2 | h2
              · left; omega
              · right; left; omega
            · right; right
              rw [show D + m - i = e by omega] at h
              exact h)
          have HHR := Go.Lib.hid (show i = m ∨ e = m ∨ ltR d[e - 1]! d[i]! = true by
            rcases HG.out with h | h
            · rcases HP1.out with h2 | h2
              · left; omega
              · right; left; omega
            · right; right
              rw [show D + m - 1 - i = e - 1 by omega] at h
              exact h)
          have HSP := Go.Lib.hid fun (d1 : Array RecT) (h : Rotd d i m e d1) => rot_split (mid := D) swoK h HS.out.1 HS.out.2 hai hsm hme heb (by omega) HHL.out HHR.out
          have HEE := Go.Lib.hid hee
          clear HL HG HP0 HP1 HHL HHR hee q1 q2 q3 q4 q5 hsi hij hjr hlt
          by_cases hs1 : i < m
          · have hs1I : (i : Int) < (m : Int) := by omega
            by_cases hs2 : m < e
            · have hs2I : (m : Int) < (e : Int) := by omega
              have CR := rotate_c (d := d) i m e wr hs1 hs2 (by rw [← HN.out]; omega) (by rw [← HN.out]; exact hsz) S.out
              rw [← HN.out] at CR
              have CR := Go.Lib.hid CR
              go_wp2_with fail
              refine CR.out.mono ?_
              rintro e' w1 ⟨rfl, d1, hrot, S⟩
              have S := Go.Lib.hid S
              have HSP := Go.Lib.hid (And.intro hrot (HSP.out d1 hrot))
              clear hrot CR
              have HD1 := Go.Lib.hid (show n = d1.size by have := HSP.out.1.perm.1; have := HN.out; omega)
              by_cases ht1 : a < i
              · have ht1I : (a : Int) < (i : Int) := by omega
                by_cases ht2 : i < D
                · have ht2I : (i : Int) < (D : Int) := by omega
                  have CL := Go.Lib.hid (IH.out a i D d1 _ (by have := H0.out; omega) ht1 ht2 (by omega) HD1.out HSP.out.2.2.1 HSP.out.2.2.2.1 S.out)
                  go_wp2_with fail
                  refine CL.out.mono ?_
                  rintro e' w2 ⟨rfl, d2, hp2, hs2', S⟩
                  have S := Go.Lib.hid S
                  have HL2 := Go.Lib.hid (And.intro hp2 hs2')
                  clear hp2 hs2' CL
                  have HD2 := Go.Lib.hid (show n = d2.size by have := HL2.out.1.1; have := HD1.out; omega)
                  have HS3 := Go.Lib.hid (And.intro (sorted_congr HSP.out.2.2.2.2.1 (fun x hx _ => HL2.out.1.2.1 x (.inr hx))) (sorted_congr HSP.out.2.2.2.2.2 (fun x hx _ => HL2.out.1.2.1 x (.inr (by omega)))))
                  have HMD := Go.Lib.hid fun (d3 : Array RecT) (h1 : PermIn D b d2 d3) (h2 : SortedIn ltR D b d3) => merge_done (by rw [← HN.out]; exact h3) HSP.out.1 hai heb (by omega) (by omega) HSP.out.2.1 HL2.out.1 HL2.out.2 h1 h2
                  by_cases hu1 : D < e
                  · have hu1I : (D : Int) < (e : Int) := by omega
                    by_cases hu2 : e < b
                    · have hu2I : (e : Int) < (b : Int) := by omega
                      have CR2 := Go.Lib.hid (IH.out D e b d2 _ (by have := H0.out; omega) hu1 hu2 h3 HD2.out HS3.out.1 HS3.out.2 S.out)
                      go_wp2_with fail
                      refine CR2.out.mono ?_
                      rintro e' w3 ⟨rfl, d3, hp3, hs3', S⟩
                      have HF := Go.Lib.hid (HMD.out d3 hp3 hs3')
                      clear CR2 hp3 hs3'
                      go_wp2_with fail
                      go_end0
                      exact ⟨rfl, d3, HF.out.1, HF.out.2, S⟩
                    · have hu2I : ¬ (e : Int) < (b : Int) := by omega
                      have HF := Go.Lib.hid (HMD.out d2 (permIn_refl d2 D b) (sorted_join HS3.out.1 HS3.out.2 (.inr (by omega))))
                      go_wp2_with fail
                      go_end0
                      exact ⟨rfl, d2, HF.out.1, HF.out.2, S.out⟩
                  · have hu1I : ¬ (D : Int) < (e : Int) := by omega
                    have HF := Go.Lib.hid (HMD.out d2 (permIn_refl d2 D b) (sorted_join HS3.out.1 HS3.out.2 (.inl (by omega))))
                    go_wp2_with fail
                    go_end0
                    exact ⟨rfl, d2, HF.out.1, HF.out.2, S.out⟩
                · have ht2I : ¬ (i : Int) < (D : Int) := by omega
                  have HL2 := Go.Lib.hid (And.intro (permIn_refl d1 a D) (sorted_join HSP.out.2.2.1 HSP.out.2.2.2.1 (.inr (by omega))))
                  obtain ⟨d2, hd2⟩ : ∃ d2, d2 = d1 := ⟨_, rfl⟩
                  rw [← hd2] at S
                  have HL2 : Hid (PermIn a D d1 d2 ∧ SortedIn ltR a D d2) := by rw [hd2]; exact HL2
                  clear hd2
                  have HD2 := Go.Lib.hid (show n = d2.size by have := HL2.out.1.1; have := HD1.out; omega)
                  have HS3 := Go.Lib.hid (And.intro (sorted_congr HSP.out.2.2.2.2.1 (fun x hx _ => HL2.out.1.2.1 x (.inr hx))) (sorted_congr HSP.out.2.2.2.2.2 (fun x hx _ => HL2.out.1.2.1 x (.inr (by omega)))))
                  have HMD := Go.Lib.hid fun (d3 : Array RecT) (h1 : PermIn D b d2 d3) (h2 : SortedIn ltR D b d3) => merge_done (by rw [← HN.out]; exact h3) HSP.out.1 hai heb (by omega) (by omega) HSP.out.2.1 HL2.out.1 HL2.out.2 h1 h2
                  by_cases hu1 : D < e
                  · have hu1I : (D : Int) < (e : Int) := by omega
                    by_cases hu2 : e < b
                    · have hu2I : (e : Int) < (b : Int) := by omega
                      have CR2 := Go.Lib.hid (IH.out D e b d2 _ (by have := H0.out; omega) hu1 hu2 h3 HD2.out HS3.out.1 HS3.out.2 S.out)
                      go_wp2_with fail
                      refine CR2.out.mono ?_
                      rintro e' w3 ⟨rfl, d3, hp3, hs3', S⟩
                      have HF := Go.Lib.hid (HMD.out d3 hp3 hs3')
                      clear CR2 hp3 hs3'
                      go_wp2_with fail
                      go_end0
                      exact ⟨rfl, d3, HF.out.1, HF.out.2, S⟩
                    · have hu2I : ¬ (e : Int) < (b : Int) := by omega
                      have HF := Go.Lib.hid (HMD.out d2 (permIn_refl d2 D b) (sorted_join HS3.out.1 HS3.out.2 (.inr (by omega))))
                      go_wp2_with fail
                      go_end0
                      exact ⟨rfl, d2, HF.out.1, HF.out.2, S.out⟩
                  · have hu1I : ¬ (D : Int) < (e : Int) := by omega
                    have HF := Go.Lib.hid (HMD.out d2 (permIn_refl d2 D b) (sorted_join HS3.out.1 HS3.out.2 (.inl (by omega))))
                    go_wp2_with fail
                    go_end0
                    exact ⟨rfl, d2, HF.out.1, HF.out.2, S.out⟩
              · have ht1I : ¬ (a : Int) < (i : Int) := by omega
                have HL2 := Go.Lib.hid (And.intro (permIn_refl d1 a D) (sorted_join HSP.out.2.2.1 HSP.out.2.2.2.1 (.inl (by omega))))
                obtain ⟨d2, hd2⟩ : ∃ d2, d2 = d1 := ⟨_, rfl⟩
                rw [← hd2] at S
                have HL2 : Hid (PermIn a D d1 d2 ∧ SortedIn ltR a D d2) := by rw [hd2]; exact HL2
                clear hd2
                have HD2 := Go.Lib.hid (show n = d2.size by have := HL2.out.1.1; have := HD1.out; omega)
                have HS3 := Go.Lib.hid (And.intro (sorted_congr HSP.out.2.2.2.2.1 (fun x hx _ => HL2.out.1.2.1 x (.inr hx))) (sorted_congr HSP.out.2.2.2.2.2 (fun x hx _ => HL2.out.1.2.1 x (.inr (by omega)))))
                have HMD := Go.Lib.hid fun (d3 : Array RecT) (h1 : PermIn D b d2 d3) (h2 : SortedIn ltR D b d3) => merge_done (by rw [← HN.out]; exact h3) HSP.out.1 hai heb (by omega) (by omega) HSP.out.2.1 HL2.out.1 HL2.out.2 h1 h2
                by_cases hu1 : D < e
                · have hu1I : (D : Int) < (e : Int) := by omega
                  by_cases hu2 : e < b
                  · have hu2I : (e : Int) < (b : Int) := by omega
                    have CR2 := Go.Lib.hid (IH.out D e b d2 _ (by have := H0.out; omega) hu1 hu2 h3 HD2.out HS3.out.1 HS3.out.2 S.out)
                    go_wp2_with fail
                    refine CR2.out.mono ?_
                    rintro e' w3 ⟨rfl, d3, hp3, hs3', S⟩
                    have HF := Go.Lib.hid (HMD.out d3 hp3 hs3')
                    clear CR2 hp3 hs3'
                    go_wp2_with fail
                    go_end0
                    exact ⟨rfl, d3, HF.out.1, HF.out.2, S⟩
                  · have hu2I : ¬ (e : Int) < (b : Int) := by omega
                    have HF := Go.Lib.hid (HMD.out d2 (permIn_refl d2 D b) (sorted_join HS3.out.1 HS3.out.2 (.inr (by omega))))
                    go_wp2_with fail
                    go_end0
                    exact ⟨rfl, d2, HF.out.1, HF.out.2, S.out⟩
                · have hu1I : ¬ (D : Int) < (e : Int) := by omega
                  have HF := Go.Lib.hid (HMD.out d2 (permIn_refl d2 D b) (sorted_join HS3.out.1 HS3.out.2 (.inl (by omega))))
                  go_wp2_with fail
                  go_end0
                  exact ⟨rfl, d2, HF.out.1, HF.out.2, S.out⟩
            · have hs2I : ¬ (m : Int) < (e : Int) := by omega
              have hrot := Rotd.none d hsm hme (.inr (by omega))
              have HSP := Go.Lib.hid (And.intro hrot (HSP.out d hrot))
              clear hrot
              obtain ⟨d1, hd1⟩ : ∃ d1, d1 = d := ⟨_, rfl⟩
              have S : Hid (RW w0 B g c d1 wr) := by rw [hd1]; exact S
              have HSP : Hid (Rotd d i m e d1 ∧ (∀ x y, a ≤ x → x < D → D ≤ y → y < b → ltR d1[y]! d1[x]! = false) ∧ SortedIn ltR a i d1 ∧ SortedIn ltR i D d1 ∧ SortedIn ltR D e d1 ∧ SortedIn ltR e b d1) := by rw [hd1]; exact HSP
              clear hd1
              have HD1 := Go.Lib.hid (show n = d1.size by have := HSP.out.1.perm.1; have := HN.out; omega)
              by_cases ht1 : a < i
              · have ht1I : (a : Int) < (i : Int) := by omega
                by_cases ht2 : i < D
                · have ht2I : (i : Int) < (D : Int) := by omega
                  have CL := Go.Lib.hid (IH.out a i D d1 _ (by have := H0.out; omega) ht1 ht2 (by omega) HD1.out HSP.out.2.2.1 HSP.out.2.2.2.1 S.out)
                  go_wp2_with fail
                  refine CL.out.mono ?_
                  rintro e' w2 ⟨rfl, d2, hp2, hs2', S⟩
                  have S := Go.Lib.hid S
                  have HL2 := Go.Lib.hid (And.intro hp2 hs2')
                  clear hp2 hs2' CL
                  have HD2 := Go.Lib.hid (show n = d2.size by have := HL2.out.1.1; have := HD1.out; omega)
                  have HS3 := Go.Lib.hid (And.intro (sorted_congr HSP.out.2.2.2.2.1 (fun x hx _ => HL2.out.1.2.1 x (.inr hx))) (sorted_congr HSP.out.2.2.2.2.2 (fun x hx _ => HL2.out.1.2.1 x (.inr (by omega)))))
                  have HMD := Go.Lib.hid fun (d3 : Array RecT) (h1 : PermIn D b d2 d3) (h2 : SortedIn ltR D b d3) => merge_done (by rw [← HN.out]; exact h3) HSP.out.1 hai heb (by omega) (by omega) HSP.out.2.1 HL2.out.1 HL2.out.2 h1 h2
                  by_cases hu1 : D < e
                  · have hu1I : (D : Int) < (e : Int) := by omega
                    by_cases hu2 : e < b
                    · have hu2I : (e : Int) < (b : Int) := by omega
                      have CR2 := Go.Lib.hid (IH.out D e b d2 _ (by have := H0.out; omega) hu1 hu2 h3 HD2.out HS3.out.1 HS3.out.2 S.out)
                      go_wp2_with fail
                      refine CR2.out.mono ?_
                      rintro e' w3 ⟨rfl, d3, hp3, hs3', S⟩
                      have HF := Go.Lib.hid (HMD.out d3 hp3 hs3')
                      clear CR2 hp3 hs3'
                      go_wp2_with fail
                      go_end0
                      exact ⟨rfl, d3, HF.out.1, HF.out.2, S⟩
                    · have hu2I : ¬ (e : Int) < (b : Int) := by omega
                      have HF := Go.Lib.hid (HMD.out d2 (permIn_refl d2 D b) (sorted_join HS3.out.1 HS3.out.2 (.inr (by omega))))
                      go_wp2_with fail
                      go_end0
                      exact ⟨rfl, d2, HF.out.1, HF.out.2, S.out⟩
                  · have hu1I : ¬ (D : Int) < (e : Int) := by omega
                    have HF := Go.Lib.hid (HMD.out d2 (permIn_refl d2 D b) (sorted_join HS3.out.1 HS3.out.2 (.inl (by omega))))
                    go_wp2_with fail
                    go_end0
                    exact ⟨rfl, d2, HF.out.1, HF.out.2, S.out⟩
                · have ht2I : ¬ (i : Int) < (D : Int) := by omega
                  have HL2 := Go.Lib.hid (And.intro (permIn_refl d1 a D) (sorted_join HSP.out.2.2.1 HSP.out.2.2.2.1 (.inr (by omega))))
                  obtain ⟨d2, hd2⟩ : ∃ d2, d2 = d1 := ⟨_, rfl⟩
                  rw [← hd2] at S
                  have HL2 : Hid (PermIn a D d1 d2 ∧ SortedIn ltR a D d2) := by rw [hd2]; exact HL2
                  clear hd2
                  have HD2 := Go.Lib.hid (show n = d2.size by have := HL2.out.1.1; have := HD1.out; omega)
                  have HS3 := Go.Lib.hid (And.intro (sorted_congr HSP.out.2.2.2.2.1 (fun x hx _ => HL2.out.1.2.1 x (.inr hx))) (sorted_congr HSP.out.2.2.2.2.2 (fun x hx _ => HL2.out.1.2.1 x (.inr (by omega)))))
                  have HMD := Go.Lib.hid fun (d3 : Array RecT) (h1 : PermIn D b d2 d3) (h2 : SortedIn ltR D b d3) => merge_done (by rw [← HN.out]; exact h3) HSP.out.1 hai heb (by omega) (by omega) HSP.out.2.1 HL2.out.1 HL2.out.2 h1 h2
                  by_cases hu1 : D < e
                  · have hu1I : (D : Int) < (e : Int) := by omega
                    by_cases hu2 : e < b
                    · have hu2I : (e : Int) < (b : Int) := by omega
                      have CR2 := Go.Lib.hid (IH.out D e b d2 _ (by have := H0.out; omega) hu1 hu2 h3 HD2.out HS3.out.1 HS3.out.2 S.out)
                      go_wp2_with fail
                      refine CR2.out.mono ?_
                      rintro e' w3 ⟨rfl, d3, hp3, hs3', S⟩
                      have HF := Go.Lib.hid (HMD.out d3 hp3 hs3')
                      clear CR2 hp3 hs3'
                      go_wp2_with fail
                      go_end0
                      exact ⟨rfl, d3, HF.out.1, HF.out.2, S⟩
                    · have hu2I : ¬ (e : Int) < (b : Int) := by omega
                      have HF := Go.Lib.hid (HMD.out d2 (permIn_refl d2 D b) (sorted_join HS3.out.1 HS3.out.2 (.inr (by omega))))
                      go_wp2_with fail
                      go_end0
                      exact ⟨rfl, d2, HF.out.1, HF.out.2, S.out⟩
                  · have hu1I : ¬ (D : Int) < (e : Int) := by omega
                    have HF := Go.Lib.hid (HMD.out d2 (permIn_refl d2 D b) (sorted_join HS3.out.1 HS3.out.2 (.inl (by omega))))
                    go_wp2_with fail
                    go_end0
                    exact ⟨rfl, d2, HF.out.1, HF.out.2, S.out⟩
              · have ht1I : ¬ (a : Int) < (i : Int) := by omega
                have HL2 := Go.Lib.hid (And.intro (permIn_refl d1 a D) (sorted_join HSP.out.2.2.1 HSP.out.2.2.2.1 (.inl (by omega))))
                obtain ⟨d2, hd2⟩ : ∃ d2, d2 = d1 := ⟨_, rfl⟩
                rw [← hd2] at S
                have HL2 : Hid (PermIn a D d1 d2 ∧ SortedIn ltR a D d2) := by rw [hd2]; exact HL2
                clear hd2
                have HD2 := Go.Lib.hid (show n = d2.size by have := HL2.out.1.1; have := HD1.out; omega)
                have HS3 := Go.Lib.hid (And.intro (sorted_congr HSP.out.2.2.2.2.1 (fun x hx _ => HL2.out.1.2.1 x (.inr hx))) (sorted_congr HSP.out.2.2.2.2.2 (fun x hx _ => HL2.out.1.2.1 x (.inr (by omega)))))
                have HMD := Go.Lib.hid fun (d3 : Array RecT) (h1 : PermIn D b d2 d3) (h2 : SortedIn ltR D b d3) => merge_done (by rw [← HN.out]; exact h3) HSP.out.1 hai heb (by omega) (by omega) HSP.out.2.1 HL2.out.1 HL2.out.2 h1 h2
                by_cases hu1 : D < e
                · have hu1I : (D : Int) < (e : Int) := by omega
                  by_cases hu2 : e < b
                  · have hu2I : (e : Int) < (b : Int) := by omega
                    have CR2 := Go.Lib.hid (IH.out D e b d2 _ (by have := H0.out; omega) hu1 hu2 h3 HD2.out HS3.out.1 HS3.out.2 S.out)
                    go_wp2_with fail
                    refine CR2.out.mono ?_
                    rintro e' w3 ⟨rfl, d3, hp3, hs3', S⟩
                    have HF := Go.Lib.hid (HMD.out d3 hp3 hs3')
                    clear CR2 hp3 hs3'
                    go_wp2_with fail
                    go_end0
                    exact ⟨rfl, d3, HF.out.1, HF.out.2, S⟩
                  · have hu2I : ¬ (e : Int) < (b : Int) := by omega
                    have HF := Go.Lib.hid (HMD.out d2 (permIn_refl d2 D b) (sorted_join HS3.out.1 HS3.out.2 (.inr (by omega))))
                    go_wp2_with fail
                    go_end0
                    exact ⟨rfl, d2, HF.out.1, HF.out.2, S.out⟩
                · have hu1I : ¬ (D : Int) < (e : Int) := by omega
                  have HF := Go.Lib.hid (HMD.out d2 (permIn_refl d2 D b) (sorted_join HS3.out.1 HS3.out.2 (.inl (by omega))))
                  go_wp2_with fail
                  go_end0
                  exact ⟨rfl, d2, HF.out.1, HF.out.2, S.out⟩
          · have hs1I : ¬ (i : Int) < (m : Int) := by omega
            have hrot := Rotd.none d hsm hme (.inl (by omega))
            have HSP := Go.Lib.hid (And.intro hrot (HSP.out d hrot))
            clear hrot
            obtain ⟨d1, hd1⟩ : ∃ d1, d1 = d := ⟨_, rfl⟩
            have S : Hid (RW w0 B g c d1 wr) := by rw [hd1]; exact S
            have HSP : Hid (Rotd d i m e d1 ∧ (∀ x y, a ≤ x → x < D → D ≤ y → y < b → ltR d1[y]! d1[x]! = false) ∧ SortedIn ltR a i d1 ∧ SortedIn ltR i D d1 ∧ SortedIn ltR D e d1 ∧ SortedIn ltR e b d1) := by rw [hd1]; exact HSP
            clear hd1
            have HD1 := Go.Lib.hid (show n = d1.size by have := HSP.out.1.perm.1; have := HN.out; omega)
            by_cases ht1 : a < i
            · have ht1I : (a : Int) < (i : Int) := by omega
              by_cases ht2 : i < D
              · have ht2I : (i : Int) < (D : Int) := by omega
                have CL := Go.Lib.hid (IH.out a i D d1 _ (by have := H0.out; omega) ht1 ht2 (by omega) HD1.out HSP.out.2.2.1 HSP.out.2.2.2.1 S.out)
                go_wp2_with fail
                refine CL.out.mono ?_
                rintro e' w2 ⟨rfl, d2, hp2, hs2', S⟩
                have S := Go.Lib.hid S
                have HL2 := Go.Lib.hid (And.intro hp2 hs2')
                clear hp2 hs2' CL
                have HD2 := Go.Lib.hid (show n = d2.size by have := HL2.out.1.1; have := HD1.out; omega)
                have HS3 := Go.Lib.hid (And.intro (sorted_congr HSP.out.2.2.2.2.1 (fun x hx _ => HL2.out.1.2.1 x (.inr hx))) (sorted_congr HSP.out.2.2.2.2.2 (fun x hx _ => HL2.out.1.2.1 x (.inr (by omega)))))
                have HMD := Go.Lib.hid fun (d3 : Array RecT) (h1 : PermIn D b d2 d3) (h2 : SortedIn ltR D b d3) => merge_done (by rw [← HN.out]; exact h3) HSP.out.1 hai heb (by omega) (by omega) HSP.out.2.1 HL2.out.1 HL2.out.2 h1 h2
                by_cases hu1 : D < e
                · have hu1I : (D : Int) < (e : Int) := by omega
                  by_cases hu2 : e < b
                  · have hu2I : (e : Int) < (b : Int) := by omega
                    have CR2 := Go.Lib.hid (IH.out D e b d2 _ (by have := H0.out; omega) hu1 hu2 h3 HD2.out HS3.out.1 HS3.out.2 S.out)
                    go_wp2_with fail
                    refine CR2.out.mono ?_
                    rintro e' w3 ⟨rfl, d3, hp3, hs3', S⟩
                    have HF := Go.Lib.hid (HMD.out d3 hp3 hs3')
                    clear CR2 hp3 hs3'
                    go_wp2_with fail
                    go_end0
                    exact ⟨rfl, d3, HF.out.1, HF.out.2, S⟩
                  · have hu2I : ¬ (e : Int) < (b : Int) := by omega
                    have HF := Go.Lib.hid (HMD.out d2 (permIn_refl d2 D b) (sorted_join HS3.out.1 HS3.out.2 (.inr (by omega))))
                    go_wp2_with fail
                    go_end0
                    exact ⟨rfl, d2, HF.out.1, HF.out.2, S.out⟩
                · have hu1I : ¬ (D : Int) < (e : Int) := by omega
                  have HF := Go.Lib.hid (HMD.out d2 (permIn_refl d2 D b) (sorted_join HS3.out.1 HS3.out.2 (.inl (by omega))))
                  go_wp2_with fail
                  go_end0
                  exact ⟨rfl, d2, HF.out.1, HF.out.2, S.out⟩
              · have ht2I : ¬ (i : Int) < (D : Int) := by omega
                have HL2 := Go.Lib.hid (And.intro (permIn_refl d1 a D) (sorted_join HSP.out.2.2.1 HSP.out.2.2.2.1 (.inr (by omega))))
                obtain ⟨d2, hd2⟩ : ∃ d2, d2 = d1 := ⟨_, rfl⟩
                rw [← hd2] at S
                have HL2 : Hid (PermIn a D d1 d2 ∧ SortedIn ltR a D d2) := by rw [hd2]; exact HL2
                clear hd2
                have HD2 := Go.Lib.hid (show n = d2.size by have := HL2.out.1.1; have := HD1.out; omega)
                have HS3 := Go.Lib.hid (And.intro (sorted_congr HSP.out.2.2.2.2.1 (fun x hx _ => HL2.out.1.2.1 x (.inr hx))) (sorted_congr HSP.out.2.2.2.2.2 (fun x hx _ => HL2.out.1.2.1 x (.inr (by omega)))))
                have HMD := Go.Lib.hid fun (d3 : Array RecT) (h1 : PermIn D b d2 d3) (h2 : SortedIn ltR D b d3) => merge_done (by rw [← HN.out]; exact h3) HSP.out.1 hai heb (by omega) (by omega) HSP.out.2.1 HL2.out.1 HL2.out.2 h1 h2
                by_cases hu1 : D < e
                · have hu1I : (D : Int) < (e : Int) := by omega
                  by_cases hu2 : e < b
                  · have hu2I : (e : Int) < (b : Int) := by omega
                    have CR2 := Go.Lib.hid (IH.out D e b d2 _ (by have := H0.out; omega) hu1 hu2 h3 HD2.out HS3.out.1 HS3.out.2 S.out)
                    go_wp2_with fail
                    refine CR2.out.mono ?_
                    rintro e' w3 ⟨rfl, d3, hp3, hs3', S⟩
                    have HF := Go.Lib.hid (HMD.out d3 hp3 hs3')
                    clear CR2 hp3 hs3'
                    go_wp2_with fail
                    go_end0
                    exact ⟨rfl, d3, HF.out.1, HF.out.2, S⟩
                  · have hu2I : ¬ (e : Int) < (b : Int) := by omega
                    have HF := Go.Lib.hid (HMD.out d2 (permIn_refl d2 D b) (sorted_join HS3.out.1 HS3.out.2 (.inr (by omega))))
                    go_wp2_with fail
                    go_end0
                    exact ⟨rfl, d2, HF.out.1, HF.out.2, S.out⟩
                · have hu1I : ¬ (D : Int) < (e : Int) := by omega
                  have HF := Go.Lib.hid (HMD.out d2 (permIn_refl d2 D b) (sorted_join HS3.out.1 HS3.out.2 (.inl (by omega))))
                  go_wp2_with fail
                  go_end0
                  exact ⟨rfl, d2, HF.out.1, HF.out.2, S.out⟩
            · have ht1I : ¬ (a : Int) < (i : Int) := by omega
              have HL2 := Go.Lib.hid (And.intro (permIn_refl d1 a D) (sorted_join HSP.out.2.2.1 HSP.out.2.2.2.1 (.inl (by omega))))
              obtain ⟨d2, hd2⟩ : ∃ d2, d2 = d1 := ⟨_, rfl⟩
              rw [← hd2] at S
              have HL2 : Hid (PermIn a D d1 d2 ∧ SortedIn ltR a D d2) := by rw [hd2]; exact HL2
              clear hd2
              have HD2 := Go.Lib.hid (show n = d2.size by have := HL2.out.1.1; have := HD1.out; omega)
              have HS3 := Go.Lib.hid (And.intro (sorted_congr HSP.out.2.2.2.2.1 (fun x hx _ => HL2.out.1.2.1 x (.inr hx))) (sorted_congr HSP.out.2.2.2.2.2 (fun x hx _ => HL2.out.1.2.1 x (.inr (by omega)))))
              have HMD := Go.Lib.hid fun (d3 : Array RecT) (h1 : PermIn D b d2 d3) (h2 : SortedIn ltR D b d3) => merge_done (by rw [← HN.out]; exact h3) HSP.out.1 hai heb (by omega) (by omega) HSP.out.2.1 HL2.out.1 HL2.out.2 h1 h2
              by_cases hu1 : D < e
              · have hu1I : (D : Int) < (e : Int) := by omega
                by_cases hu2 : e < b
                · have hu2I : (e : Int) < (b : Int) := by omega
                  have CR2 := Go.Lib.hid (IH.out D e b d2 _ (by have := H0.out; omega) hu1 hu2 h3 HD2.out HS3.out.1 HS3.out.2 S.out)
                  go_wp2_with fail
                  refine CR2.out.mono ?_
                  rintro e' w3 ⟨rfl, d3, hp3, hs3', S⟩
                  have HF := Go.Lib.hid (HMD.out d3 hp3 hs3')
                  clear CR2 hp3 hs3'
                  go_wp2_with fail
                  go_end0
                  exact ⟨rfl, d3, HF.out.1, HF.out.2, S⟩
                · have hu2I : ¬ (e : Int) < (b : Int) := by omega
                  have HF := Go.Lib.hid (HMD.out d2 (permIn_refl d2 D b) (sorted_join HS3.out.1 HS3.out.2 (.inr (by omega))))
                  go_wp2_with fail
                  go_end0
                  exact ⟨rfl, d2, HF.out.1, HF.out.2, S.out⟩
              · have hu1I : ¬ (D : Int) < (e : Int) := by omega
                have HF := Go.Lib.hid (HMD.out d2 (permIn_refl d2 D b) (sorted_join HS3.out.1 HS3.out.2 (.inl (by omega))))
                go_wp2_with fail
                go_end0
                exact ⟨rfl, d2, HF.out.1, HF.out.2, S.out⟩
end
end Go.Proofs.YthbnecdeebmlhaaGreat

namespace Go.Proofs.YthbnecdeebmlhaaGreat
open Go.RowKit Go.Shelf Go.Lib Go.Sort

theorem flatk_len {α : Type} {enc : α → List Value} {k : Nat} (hk : ∀ x, (enc x).length = k) (l : List α) : (l.flatMap enc).length = l.length * k := by
  induction l with
  | nil => simp
  | cons x l ih => rw [List.flatMap_cons, List.length_append, ih, hk, List.length_cons, Nat.add_mul, Nat.one_mul, Nat.add_comm]
theorem flatk_at {α : Type} {enc : α → List Value} {k : Nat} (hk : ∀ x, (enc x).length = k) : ∀ (l : List α) (i j : Nat) (hi : i < l.length), j < k → (l.flatMap enc)[i * k + j]? = (enc l[i])[j]?
  | [], i, j, hi, _ => absurd hi (by simp)
  | x :: l, 0, j, hi, hj => by
    rw [List.flatMap_cons, Nat.zero_mul, Nat.zero_add, List.getElem?_append_left (by rw [hk]; exact hj)]
    rfl
  | x :: l, i + 1, j, hi, hj => by
    rw [List.flatMap_cons, List.getElem?_append_right (by rw [hk, Nat.add_mul]; omega), hk, show (i + 1) * k + j - k = i * k + j from by rw [Nat.add_mul]; omega]
    exact flatk_at hk l i j (by simpa using hi) hj
theorem flatK_list {α : Type} [Inhabited α] {enc : α → List Value} {k : Nat} (hk : ∀ x, (enc x).length = k) (hk0 : 0 < k) (d : Array α) : (flatK enc k d).toList = d.toList.flatMap enc := by
  apply List.ext_getElem?
  intro t
  by_cases ht : t < d.size * k
  · have hi : t / k < d.toList.length := by rw [Array.length_toList]; exact Nat.div_lt_of_lt_mul (by rw [Nat.mul_comm]; exact ht)
    have hj : t % k < k := Nat.mod_lt _ hk0
    have h1 := flatk_at hk d.toList (t / k) (t % k) hi hj
    rw [show t / k * k + t % k = t from by rw [Nat.mul_comm]; exact Nat.div_add_mod t k] at h1
    rw [h1, Array.getElem?_toList, Array.getElem?_eq_getElem (by rw [size_flatK]; exact ht)]
    have h2 := get_flatK enc k d t ht
    rw [getElem!_pos _ _ (by rw [size_flatK]; exact ht)] at h2
    rw [h2]
    have h3 : d[t / k]! = d.toList[t / k] := by rw [getElem!_pos _ _ (by simpa using hi)]; rfl
    rw [h3, getElem!_pos _ _ (by rw [hk]; exact hj), List.getElem?_eq_getElem (by rw [hk]; exact hj)]
  · rw [List.getElem?_eq_none (by rw [Array.length_toList, size_flatK]; omega), List.getElem?_eq_none (by rw [flatk_len hk, Array.length_toList]; omega)]

section
variable {α : Type} [Inhabited α] {enc : α → List Value} {k : Nat} {w : World} {B g n cap : Nat} {e : TypeId} {d d' : Array α}
theorem row_open {xs : List Value} {s m : Nat} (h : w.ownsRow B e s (.slice (some ⟨g, 0, none⟩) n cap) m xs) : ∃ cur, B ≤ g ∧ w.heap[g]? = some (.cells cur e (0, 0)) ∧ m ≤ cap ∧ cap ≤ maxLen ∧ cur.size = cap * s ∧ cur.toList.take (m * s) = xs ∧ m = n := by
  rcases h.2 with ⟨h', -⟩ | ⟨g', cap', cur, h', hB, h2, h3, h4, h5, h6⟩
  · cases h'
  · simp only [Value.slice.injEq, Option.some.injEq, Addr.mk.injEq] at h'
    obtain ⟨⟨rfl, -⟩, rfl, rfl⟩ := h'
    exact ⟨cur, hB, h2, h3, h4, h5, h6, rfl⟩
theorem holdsK_row (hk : ∀ x, (enc x).length = k) (hk0 : 0 < k) (h : w.ownsRow B e k (.slice (some ⟨g, 0, none⟩) d.size cap) d.size (d.toList.flatMap enc)) : HoldsK enc k w g 0 d := by
  obtain ⟨cur, -, h2, h3, h4, h5, h6, -⟩ := row_open h
  intro t ht
  rw [size_flatK] at ht
  refine ⟨?_, frozen_of_row w g _ _ _ h2⟩
  rw [cell_of_row w g (0 + t) _ _ _ h2, Nat.zero_add]
  have h7 : (flatK enc k d).toList[t]? = cur.toList[t]? := by rw [flatK_list hk hk0, ← h6, List.getElem?_take_of_lt ht]
  rw [Array.getElem?_toList, Array.getElem?_toList] at h7
  rw [← h7, Array.getElem?_eq_getElem (by rw [size_flatK]; exact ht), getElem!_pos _ _ (by rw [size_flatK]; exact ht)]
  rfl
theorem grown_sortedK (m : Nat) (os : Array Obj) : w.grownBy (sortWorldK enc k w g 0 m d' os) (some g) := by
  refine ⟨rfl, rfl, rfl, by simp [sortWorldK, putRowK, putRow, mapBlock, Sort.ahead], fun j hj hne => ?_⟩
  unfold sortWorldK
  rw [heap_grow_old _ _ (by simpa [putRowK, putRow, mapBlock, Sort.ahead] using hj)]
  have : g ≠ j := fun e => hne (by rw [e])
  simp [putRowK, putRow, mapBlock, Sort.ahead, Array.getElem?_modify, this]
theorem row_sortedK (hk : ∀ x, (enc x).length = k) (hk0 : 0 < k) (h : w.ownsRow B e k (.slice (some ⟨g, 0, none⟩) d.size cap) d.size (d.toList.flatMap enc)) (hs : d'.size = d.size) (m : Nat) (os : Array Obj) :
    (sortWorldK enc k w g 0 m d' os).ownsRow B e k (.slice (some ⟨g, 0, none⟩) d.size cap) d.size (d'.toList.flatMap enc) := by
  obtain ⟨cur, hB, h2, h3, h4, h5, h6, -⟩ := row_open h
  have hg : g < w.heap.size := (Array.getElem?_eq_some_iff.1 h2).1
  refine ⟨by rw [flatk_len hk, Array.length_toList, hs], .inr ⟨g, cap, putCells id 0 (flatK enc k d') cur, rfl, hB, ?_, h3, h4, by simp [putCells, h5], ?_⟩⟩
  · unfold sortWorldK
    rw [heap_grow_old _ _ (by simpa [putRowK, putRow, mapBlock, Sort.ahead] using hg)]
    simp [putRowK, putRow, mapBlock, Sort.ahead, Array.getElem?_modify, h2, onCells]
  · have hle : d.size * k ≤ cur.size := by rw [h5]; exact Nat.mul_le_mul_right k h3
    rw [← flatK_list hk hk0]
    apply List.ext_getElem?
    intro j
    by_cases hj : j < d.size * k
    · rw [List.getElem?_take_of_lt hj, Array.getElem?_toList, Array.getElem?_toList]
      simp [putCells, show j < cur.size by omega, show j < d'.size * k by rw [hs]; exact hj]
    · rw [List.getElem?_take_eq_none (by omega), List.getElem?_eq_none (by rw [Array.length_toList, size_flatK, hs]; omega)]
end
theorem permIn_list {α : Type} [Inhabited α] {d d' : Array α} (h : PermIn 0 d.size d d') : d'.toList.Perm d.toList := by
  have := h.2.2
  rw [Array.extract_size] at this
  rw [← h.1, Array.extract_size] at this
  exact this

end Go.Proofs.YthbnecdeebmlhaaGreat

namespace Go.Proofs.YthbnecdeebmlhaaGreat
open Go.RowKit Go.Op

abbrev newestR (l : List RecT) : List RecT := newestK keyR bytesLess l
theorem newestR_len (l : List RecT) : (newestR l).length ≤ l.length := by
  have : ∀ (l acc : List RecT), (l.foldl (fun a r => setGo keyR bytesLess r a false) acc).length ≤ acc.length + l.length := by
    intro l
    induction l with
    | nil => intro acc; simp
    | cons x t ih =>
      intro acc
      rw [List.foldl_cons]
      refine Nat.le_trans (ih _) ?_
      have := (setR_len x acc false).1
      simp only [List.length_cons]
      omega
  simpa [newestR, newestK] using this l []
end Go.Proofs.YthbnecdeebmlhaaGreat

namespace Go.Proofs.YthbnecdeebmlhaaGreat
open Go.RowKit

def firstN (h : Nat) : Nat := h % 8
def tagN (h : Nat) : Nat := h / 256 % 32768
def otherI (b tag : Int) : Int := if b < 0 ∨ 7 < b ∨ tag < 0 ∨ 32767 < tag then -1 else ((b.toNat ^^^ (1 + tag.toNat % 7) : Nat) : Int)

set_option maxRecDepth 100000 in
theorem rfirst_c (h : Nat) (w : World) (hh : h < 18446744073709551616) : Calls Tryz.prog 39 #[.int .u64 (h : Int)] w fun e w' => e = .returned (.int .i64 (firstN h : Int)) ∧ w = w' := by
  have e1 : (firstN h : Int) = (h : Int) % 8 := by unfold firstN; omega
  rw [e1]
  have hh' := Go.Lib.hid hh
  clear hh e1
  go_enter Tryz.func39, Tryz.ntmps39
  go_wp2_with fail
  go_ret
  exact ⟨rfl, rfl⟩
set_option maxRecDepth 100000 in
theorem rtag_c (h : Nat) (w : World) (hh : h < 18446744073709551616) : Calls Tryz.prog 41 #[.int .u64 (h : Int)] w fun e w' => e = .returned (.int .i64 (tagN h : Int)) ∧ w = w' := by
  have e1 : (tagN h : Int) = (h : Int) / 256 % 32768 := by unfold tagN; omega
  rw [e1]
  have hh' := Go.Lib.hid hh
  clear hh e1
  go_enter Tryz.func41, Tryz.ntmps41
  go_wp2_with fail
  go_ret
  have := hh'.out
  refine ⟨ret_int ?_, rfl⟩
  rw [IntKind.wrap_u64, Int.tmod_eq_emod_of_nonneg (by omega)]
  unfold wrap64
  omega
theorem otherI_bad {b t : Int} (h : b < 0 ∨ 7 < b ∨ t < 0 ∨ 32767 < t) : otherI b t = -1 := by unfold otherI; rw [if_pos h]
theorem otherI_ok {b t : Nat} (hb : b ≤ 7) (ht : t ≤ 32767) : otherI (b : Int) (t : Int) = ((b ^^^ (1 + t % 7) : Nat) : Int) := by
  unfold otherI
  rw [if_neg (by omega), Int.toNat_natCast, Int.toNat_natCast]
theorem i64_xor_small (a b : Nat) (ha : a < 128) (hb : b < 128) : bits .xor .i64 (a : Int) (b : Int) = ((a ^^^ b : Nat) : Int) := by
  have hx : a ^^^ b < 2 ^ 7 := Nat.xor_lt_two_pow (by omega) (by omega)
  show IntKind.i64.wrap ((BitVec.ofInt 64 (a : Int) ^^^ BitVec.ofInt 64 (b : Int)).toNat : Int) = _
  have e (a : Nat) (h : a < 128) : (BitVec.ofInt 64 (a : Int)).toNat = a := by
    rw [BitVec.ofInt_natCast, BitVec.toNat_ofNat]; exact Nat.mod_eq_of_lt (by omega)
  rw [BitVec.toNat_xor, e a ha, e b hb, IntKind.wrap_i64]
  omega
set_option maxRecDepth 100000 in
theorem rother_c (b t : Int) (w : World) : Calls Tryz.prog 40 #[.int .i64 b, .int .i64 t] w fun e w' => e = .returned (.int .i64 (otherI b t)) ∧ w = w' := by
  by_cases h1 : b < 0
  · have E := Go.Lib.hid (otherI_bad (b := b) (t := t) (.inl h1))
    go_enter Tryz.func40, Tryz.ntmps40
    go_wp2_with fail
    go_ret
    exact ⟨by rw [E.out]; rfl, rfl⟩
  by_cases h2 : 7 < b
  · have E := Go.Lib.hid (otherI_bad (b := b) (t := t) (.inr (.inl h2)))
    go_enter Tryz.func40, Tryz.ntmps40
    go_wp2_with fail
    go_ret
    exact ⟨by rw [E.out]; rfl, rfl⟩
  by_cases h3 : t < 0
  · have E := Go.Lib.hid (otherI_bad (b := b) (t := t) (.inr (.inr (.inl h3))))
    go_enter Tryz.func40, Tryz.ntmps40
    go_wp2_with fail
    go_ret
    exact ⟨by rw [E.out]; rfl, rfl⟩
  by_cases h4 : 32767 < t
  · have E := Go.Lib.hid (otherI_bad (b := b) (t := t) (.inr (.inr (.inr h4))))
    go_enter Tryz.func40, Tryz.ntmps40
    go_wp2_with fail
    go_ret
    exact ⟨by rw [E.out]; rfl, rfl⟩
  obtain ⟨B, rfl⟩ : ∃ B : Nat, b = (B : Int) := ⟨b.toNat, by omega⟩
  obtain ⟨T, rfl⟩ : ∃ T : Nat, t = (T : Int) := ⟨t.toNat, by omega⟩
  have E := Go.Lib.hid (otherI_ok (b := B) (t := T) (by omega) (by omega))
  have X := i64_xor_small B (1 + T % 7) (by omega) (by omega)
  rw [show ((1 + T % 7 : Nat) : Int) = 1 + (T : Int) % 7 from by omega] at X
  have X := Go.Lib.hid X
  go_enter Tryz.func40, Tryz.ntmps40
  go_wp2_with fail
  go_ret
  exact ⟨by rw [E.out]; rfl, rfl⟩

set_option maxRecDepth 100000 in
theorem hfirst_c (h : Nat) (w : World) (hh : h < 18446744073709551616) : Calls Tryz.prog 87 #[.int .u64 (h : Int)] w fun e w' => e = .returned (.int .i64 (firstN h : Int)) ∧ w = w' := by
  have e1 : (firstN h : Int) = (h : Int) % 8 := by unfold firstN; omega
  rw [e1]
  have hh' := Go.Lib.hid hh
  clear hh e1
  go_enter Tryz.func87, Tryz.ntmps87
  go_wp2_with fail
  go_ret
  exact ⟨rfl, rfl⟩
set_option maxRecDepth 100000 in
theorem htag_c (h : Nat) (w : World) (hh : h < 18446744073709551616) : Calls Tryz.prog 86 #[.int .u64 (h : Int)] w fun e w' => e = .returned (.int .i64 (tagN h : Int)) ∧ w = w' := by
  have e1 : (tagN h : Int) = (h : Int) / 256 % 32768 := by unfold tagN; omega
  rw [e1]
  have hh' := Go.Lib.hid hh
  clear hh e1
  go_enter Tryz.func86, Tryz.ntmps86
  go_wp2_with fail
  go_ret
  exact ⟨rfl, rfl⟩
set_option maxRecDepth 100000 in
theorem hother_c (b t : Int) (w : World) (b0 : -9223372036854775808 ≤ b) (b1 : b ≤ 9223372036854775807) (t0 : -9223372036854775808 ≤ t) (t1 : t ≤ 9223372036854775807) : Calls Tryz.prog 88 #[.int .i64 b, .int .i64 t] w fun e w' => e = .returned (.int .i64 (otherI b t)) ∧ w = w' := by
  by_cases h1 : b < 0
  · have E := Go.Lib.hid (otherI_bad (b := b) (t := t) (.inl h1))
    go_enter Tryz.func88, Tryz.ntmps88
    go_wp2_with fail
    go_ret
    exact ⟨by rw [E.out]; rfl, rfl⟩
  by_cases h2 : 8 ≤ b
  · have E := Go.Lib.hid (otherI_bad (b := b) (t := t) (.inr (.inl (by omega))))
    go_enter Tryz.func88, Tryz.ntmps88
    go_wp2_with fail
    go_ret
    exact ⟨by rw [E.out]; rfl, rfl⟩
  by_cases h3 : t < 0
  · have E := Go.Lib.hid (otherI_bad (b := b) (t := t) (.inr (.inr (.inl h3))))
    go_enter Tryz.func88, Tryz.ntmps88
    go_wp2_with fail
    go_ret
    exact ⟨by rw [E.out]; rfl, rfl⟩
  by_cases h4 : 32768 ≤ t
  · have E := Go.Lib.hid (otherI_bad (b := b) (t := t) (.inr (.inr (.inr (by omega)))))
    go_enter Tryz.func88, Tryz.ntmps88
    go_wp2_with fail
    go_ret
    exact ⟨by rw [E.out]; rfl, rfl⟩
  obtain ⟨B, rfl⟩ : ∃ B : Nat, b = (B : Int) := ⟨b.toNat, by omega⟩
  obtain ⟨T, rfl⟩ : ∃ T : Nat, t = (T : Int) := ⟨t.toNat, by omega⟩
  have E := Go.Lib.hid (otherI_ok (b := B) (t := T) (by omega) (by omega))
  have X := i64_xor_small B (1 + T % 7) (by omega) (by omega)
  rw [show ((1 + T % 7 : Nat) : Int) = 1 + (T : Int) % 7 from by omega] at X
  have X := Go.Lib.hid X
  go_enter Tryz.func88, Tryz.ntmps88
  go_wp2_with fail
  go_ret
  exact ⟨by rw [E.out]; rfl, rfl⟩

end Go.Proofs.YthbnecdeebmlhaaGreat

namespace Go.Proofs.YthbnecdeebmlhaaGreat

/-! ### Two buckets. -/
def othN (b t : Nat) : Nat := b ^^^ (1 + t % 7)
theorem xor_facts : ∀ b c : Fin 8, ∀ m : Fin 7, (b.val ^^^ (1 + m.val) < 8 ∧ (b.val ^^^ (1 + m.val)) ^^^ (1 + m.val) = b.val ∧ b.val ^^^ (1 + m.val) ≠ b.val ∧
    (min b.val (b.val ^^^ (1 + m.val)) = min c.val (c.val ^^^ (1 + m.val)) ↔ (b.val = c.val ∨ b.val = c.val ^^^ (1 + m.val)))) := by decide +kernel
theorem oth_all {b c : Nat} (t : Nat) (hb : b < 8) (hc : c < 8) : othN b t < 8 ∧ othN (othN b t) t = b ∧ othN b t ≠ b ∧ (min b (othN b t) = min c (othN c t) ↔ (b = c ∨ b = othN c t)) :=
  xor_facts ⟨b, hb⟩ ⟨c, hc⟩ ⟨t % 7, Nat.mod_lt _ (by omega)⟩
theorem oth_lt {b : Nat} (t : Nat) (hb : b < 8) : othN b t < 8 := (oth_all t hb hb).1
theorem oth_oth {b : Nat} (t : Nat) (hb : b < 8) : othN (othN b t) t = b := (oth_all t hb hb).2.1
theorem oth_ne {b : Nat} (t : Nat) (hb : b < 8) : othN b t ≠ b := (oth_all t hb hb).2.2.1
theorem first_lt (h : Nat) : firstN h < 8 := by unfold firstN; omega
theorem tag_lt (h : Nat) : tagN h < 32768 := by unfold tagN; omega
theorem otherI_nat {b t : Nat} (hb : b < 8) (ht : t < 32768) : otherI (b : Int) (t : Int) = (othN b t : Int) := otherI_ok (by omega) (by omega)

/-- The pair that bucket b and its other one are, with the tag. -/
def keyN (b t : Nat) : Nat × Nat := (min b (othN b t), t)
theorem keyN_iff {b c t u : Nat} (hb : b < 8) (hc : c < 8) : keyN b t = keyN c u ↔ t = u ∧ (b = c ∨ b = othN c u) := by
  unfold keyN
  rw [Prod.mk.injEq]
  constructor
  · rintro ⟨h1, h2⟩
    subst h2
    exact ⟨rfl, (oth_all t hb hc).2.2.2.1 h1⟩
  · rintro ⟨h1, h2⟩
    subst h1
    exact ⟨(oth_all t hb hc).2.2.2.2 h2, rfl⟩
theorem keyN_oth {b : Nat} (t : Nat) (hb : b < 8) : keyN (othN b t) t = keyN b t := (keyN_iff (oth_lt t hb) hb).2 ⟨rfl, .inr rfl⟩
def keyH (h : Nat) : Nat × Nat := keyN (firstN h) (tagN h)
def nearN (a b : Nat) : Bool := tagN a == tagN b && (firstN a == firstN b || firstN a == othN (firstN b) (tagN b))
theorem near_iff (a b : Nat) : nearN a b = true ↔ keyH a = keyH b := by
  unfold nearN keyH
  rw [keyN_iff (first_lt a) (first_lt b)]
  simp

/-! ### Slots: eight buckets of four; slot 4 * b + s. -/
abbrev SlT := Nat → Option (Nat × Int)
/-! ### Who has room. -/
end Go.Proofs.YthbnecdeebmlhaaGreat

namespace Go.Proofs.YthbnecdeebmlhaaGreat
open Go.RowKit

theorem info32 : (Tryz.prog.info? 21).map (fun i => (i.zero, i.size, i.bytes)) = some (some (.int .i32 0), 1, 4) := by kernel_rfl

theorem info64 : (Tryz.prog.info? 3).map (fun i => (i.zero, i.size, i.bytes)) = some (some (.int .i64 0), 1, 8) := by kernel_rfl

end Go.Proofs.YthbnecdeebmlhaaGreat

namespace Go.Proofs.YthbnecdeebmlhaaGreat
open Go.RowKit

/-- Where each begins. -/
def posl (l : List UInt8) : List Nat := (List.range (toks l).length).map (posOf l)

theorem posl_length (l : List UInt8) : (posl l).length = (toks l).length := by simp [posl]

theorem posl_at (l : List UInt8) (i : Nat) (h : i < (posl l).length) : (posl l)[i] = posOf l i := by simp [posl]

theorem posl_more (l : List UInt8) (n : Nat) (h : n < (toks l).length) : zi .i64 ((posl l).take n) ++ [.int .i64 (posOf l n : Int)] = zi .i64 ((posl l).take (n + 1)) := by
  have h' : n < (posl l).length := by rw [posl_length]; exact h
  rw [List.take_succ_eq_append_getElem h', zi_append, posl_at]
  rfl

set_option maxHeartbeats 1000000 in
set_option maxRecDepth 100000 in
theorem rrunes_c (s : ByteArray) (w : World) (hm : s.size ≤ 1000000000) :
    Calls Tryz.prog 69 #[.string s] w fun e w' => ∃ v1 v2, e = .returned (.tuple #[v1, v2]) ∧ OwnV 21 w' w.heap.size v1 (zi .i32 (runesOf (toks (bl s)))) ∧ OwnV 3 w' w.heap.size v2 (zi .i64 (posl (bl s))) ∧ Below w.heap.size w w' := by
  have hl1 := toks_length (bl s)
  rw [← bl_size] at hl1
  obtain ⟨T, hT⟩ : ∃ T, T = (toks (bl s)).length := ⟨_, rfl⟩
  rw [← hT] at hl1
  have HT := Go.Lib.hid hT; clear hT
  go_enter Tryz.func69, Tryz.ntmps69
  go_wp2
  go_loopw [4, 5, 6] (fun u1 u2 u wr => ∃ (n p : Nat) (v1 v2 : Value), v1 = u1 ∧ v2 = u2 ∧ n ≤ T ∧ u = .int .i64 (p : Int) ∧ p ≤ s.size ∧ Hid (p = posOf (bl s) n) ∧ OwnV 21 wr w.heap.size v1 (zi .i32 ((runesOf (toks (bl s))).take n)) ∧ OwnV 3 wr w.heap.size v2 (zi .i64 ((posl (bl s)).take n)) ∧ Below w.heap.size w wr) (fun _ _ u _ => s.size - (intOf u).toNat)
  case atStart => exact ⟨0, 0, _, _, rfl, rfl, by omega, rfl, by omega, rfl, OwnV.nil _ _ _, OwnV.nil _ _ _, Below.refl _ _⟩
  case round =>
    obtain ⟨n, p, v1, v2, rfl, rfl, hn, rfl, hps, hp, hown1, hown2, hbw⟩ := hrel
    by_cases hlt : n < T
    · have hT' : n < (toks (bl s)).length := by rw [← HT.out]; exact hlt
      have hne := drop_ne (bl s) n hT'
      rw [← hp.out] at hne
      have hplt : p < s.size := by
        rw [bl_size]
        exact Nat.lt_of_not_le fun hh => hne (List.drop_eq_nil_of_le hh)
      have hsz : (s.extract p s.size).size ≤ maxLen := by rw [ByteArray.size_extract]; unfold maxLen; omega
      have C := fun W => decode_c (s.extract p s.size) W (by rw [drop_bl]; exact hne) hsz
      rw [drop_bl] at C
      have hsucc := posOf_succ (bl s) n hT'
      have hm1 := Go.Lib.hid (zi_more .i32 (toks (bl s)) n hT')
      have hm2 := Go.Lib.hid (posl_more (bl s) n hT')
      have hg := congrArg Prod.fst (get_toks (bl s) n hT')
      have hple := posOf_le (bl s) (n + 1)
      rw [← bl_size] at hple
      rw [← hp.out] at hsucc hg hm2
      have hdw := (dw_le _ hne).1
      rw [hsucc] at hple
      have hn1 : (zi .i32 ((runesOf (toks (bl s))).take n)).length = n := by rw [zi_length, List.length_take, runesOf_length]; omega
      have hn2 : (zi .i64 ((posl (bl s)).take n)).length = n := by rw [zi_length, List.length_take, posl_length]; omega
      simp only at hg
      rw [hg] at hm1
      clear hsz hne hg
      unfold dv at C
      generalize (bl s).drop p = L at *
      have Hsucc := Go.Lib.hid hsucc; clear hsucc
      have HC := Go.Lib.hid C; clear C
      generalize dr L = r at *
      generalize dw L = d at *
      generalize okB L = ok at *
      have Hn1 := Go.Lib.hid hn1; clear hn1
      have Hn2 := Go.Lib.hid hn2; clear hn2
      generalize zi .i32 ((runesOf (toks (bl s))).take n) = z1 at *
      generalize zi .i64 ((posl (bl s)).take n) = z2 at *
      go_wp2_with (first
        | (refine (HC.out _).mono ?_; rintro e w1 ⟨rfl, rfl⟩)
        | (with_reducible show wpList _ _ _ (⟨some 25, _, _, _, _, _⟩ :: _) _ _; go_loud (refine wpList_append_RV rfl (.tmp 22) (.tmp 24) 114 rfl w.heap.size 21 Tryz.underlying114 (.int .i32 0) 4 rfl info32 v1 (.slice (some ⟨wr.heap.size, 0, none⟩) 1 1) z1 [.int .i32 (r : Int)] rfl rfl (hown1.alloc _) (RV.one _ _ _) (one_one _ _) (by rw [Hn1.out]; simp only [List.length_cons, List.length_nil]; omega) (by rw [Hn1.out]; simp only [List.length_cons, List.length_nil]; omega) (hbw.alloc hbw.size _).size ?_); intro v3 w3 hown3 hg3; have hb3 := (hbw.alloc hbw.size _).grown hg3 (hbw.alloc hbw.size _).size hown1.row; have hown2' := (hown2.alloc _).kept hg3 (own_apart (by decide) hown1 hown2))
        | (with_reducible show wpList _ _ _ (⟨some 29, _, _, _, _, _⟩ :: _) _ _; go_loud (refine wpList_append_RV rfl (.tmp 26) (.tmp 28) 108 rfl w.heap.size 3 Tryz.underlying108 (.int .i64 0) 8 rfl info64 v2 (.slice (some ⟨w3.heap.size, 0, none⟩) 1 1) z2 [.int .i64 (p : Int)] rfl rfl (hown2'.alloc _) (RV.one _ _ _) (one_one _ _) (by rw [Hn2.out]; simp only [List.length_cons, List.length_nil]; omega) (by rw [Hn2.out]; simp only [List.length_cons, List.length_nil]; omega) (hb3.alloc hb3.size _).size ?_); intro v5 w5 hown5 hg5; have hb5 := (hb3.alloc hb3.size _).grown hg5 (hb3.alloc hb3.size _).size hown2'.row; have hown3' := (hown3.alloc _).kept hg5 (own_apart (by decide) hown2' hown3))
        | fail)
      go_roundw
      case rel => exact ⟨n + 1, p + d, _, _, rfl, rfl, by omega, by go_num, by omega, Hsucc.out.symm, by rw [← hm1.out]; exact hown3', by rw [← hm2.out]; exact hown5, hb5⟩
      case measure => simp [intOf]; omega
    · have hpe : p = s.size := by
        rw [hp.out, posOf_all (bl s) n (by rw [← HT.out]; omega), bl_size]
      rw [List.take_of_length_le (by rw [runesOf_length, ← HT.out]; omega)] at hown1
      rw [List.take_of_length_le (by rw [posl_length, ← HT.out]; omega)] at hown2
      clear hp
      subst hpe
      go_wp2
      go_ret2
      exact ⟨_, _, rfl, hown1, hown2, hbw⟩

end Go.Proofs.YthbnecdeebmlhaaGreat

namespace Go.Proofs.YthbnecdeebmlhaaGreat
open Go.RowKit

def two64 : Nat := 18446744073709551616
def seedN : Nat := 14695981039346656037
def primeN : Nat := 1099511628211
def goldN : Nat := 11400714819323198485
theorem two64_eq : two64 = 2 ^ 64 := by unfold two64; omega
theorem seed_lt : seedN < two64 := by unfold seedN two64; omega
theorem seed_eq : (14695981039346656037 : Int) = (seedN : Int) := by unfold seedN; omega
theorem prime_eq : primeN = 1099511628211 := rfl
theorem gold_eq : goldN = 11400714819323198485 := rfl
theorem two64_lit : two64 = 18446744073709551616 := rfl
attribute [irreducible] seedN primeN goldN two64
/-- One rune more. -/
def mixR (h r : Nat) : Nat := (h ^^^ r) * primeN % two64
/-- The runes' hash before the last turn. -/
def foldH (rs : List Nat) : Nat := rs.foldl mixR seedN
def turnA (h : Nat) : Nat := h ^^^ (h / 4294967296)
def turnB (h : Nat) : Nat := turnA h * goldN % two64
def turnC (h : Nat) : Nat := turnB h ^^^ (turnB h / 536870912)
def hashN (rs : List Nat) : Nat := turnC (foldH rs)

theorem two64_pos : 0 < two64 := by rw [two64_eq]; exact Nat.pow_pos (by omega)
theorem mixR_lt (h r : Nat) : mixR h r < two64 := by unfold mixR; exact Nat.mod_lt _ two64_pos
theorem foldH_lt (rs : List Nat) : foldH rs < two64 := by
  unfold foldH
  have : ∀ (l : List Nat) (h : Nat), h < two64 → l.foldl mixR h < two64 := by
    intro l
    induction l with
    | nil => intro h hh; exact hh
    | cons r l ih => intro h _; exact ih _ (mixR_lt h r)
  exact this rs _ seed_lt
theorem foldH_snoc (rs : List Nat) (r : Nat) : foldH (rs ++ [r]) = mixR (foldH rs) r := by
  unfold foldH
  rw [List.foldl_append, List.foldl_cons, List.foldl_nil]
theorem xor_lt64 {a b : Nat} (ha : a < two64) (hb : b < two64) : a ^^^ b < two64 := by
  rw [two64_eq] at *
  exact Nat.xor_lt_two_pow ha hb
theorem turnB_lt (h : Nat) : turnB h < two64 := by unfold turnB; exact Nat.mod_lt _ two64_pos
theorem turnC_lt (h : Nat) : turnC h < two64 := by unfold turnC; exact xor_lt64 (turnB_lt h) (Nat.lt_of_le_of_lt (Nat.div_le_self _ _) (turnB_lt h))
theorem hashN_lt (rs : List Nat) : hashN rs < two64 := turnC_lt _

theorem fold_nil : (14695981039346656037 : Int) = (foldH [] : Int) := seed_eq

theorem mix_step (h r : Nat) (hh : h < two64) (hr : r < 1114112) : IntKind.u64.wrap (bits .xor .u64 (h : Int) (IntKind.u64.wrap (r : Int)) * 1099511628211) = (mixR h r : Int) := by
  rw [two64_lit] at hh
  have e1 : IntKind.u64.wrap (r : Int) = (r : Int) := by rw [IntKind.wrap_u64]; omega
  rw [e1, u64_xor_nat h r hh (by omega), IntKind.wrap_u64]
  unfold mixR
  rw [prime_eq, two64_lit]
  generalize h ^^^ r = q
  omega
theorem turn_a (h : Nat) (hh : h < two64) : bits .xor .u64 (h : Int) ((h : Int) / 4294967296) = (turnA h : Int) := by
  rw [two64_lit] at hh
  have e : (h : Int) / 4294967296 = ((h / 4294967296 : Nat) : Int) := by omega
  rw [e, u64_xor_nat h (h / 4294967296) hh (by omega)]
  rfl
theorem turn_b (h : Nat) : IntKind.u64.wrap ((turnA h : Int) * 11400714819323198485) = (turnB h : Int) := by
  rw [IntKind.wrap_u64]
  unfold turnB
  rw [gold_eq, two64_lit]
  generalize turnA h = q
  omega
theorem turn_c (h : Nat) : bits .xor .u64 (turnB h : Int) ((turnB h : Int) / 536870912) = (turnC h : Int) := by
  have hh := turnB_lt h
  unfold turnC
  generalize turnB h = q at *
  rw [two64_lit] at hh
  have e : (q : Int) / 536870912 = ((q / 536870912 : Nat) : Int) := by omega
  rw [e, u64_xor_nat q (q / 536870912) hh (by omega)]
theorem rune_lt (l : List UInt8) : ∀ r ∈ runesOf (toks l), r < 1114112 := by
  intro r hr
  obtain ⟨t, ht, rfl⟩ := List.mem_map.1 hr
  have := (valid_iff t.1).1 (toks_good l t ht).1
  omega

set_option maxHeartbeats 1000000 in
set_option maxRecDepth 100000 in
theorem rhash_c (s : ByteArray) (w : World) (hm : s.size ≤ 1000000) :
    Calls Tryz.prog 38 #[.string s] w fun e w' => e = .returned (.int .u64 (hashN (runesOf (toks (bl s))) : Int)) ∧ Below w.heap.size w w' := by
  have C := rrunes_c s w (by omega)
  have hlen : (runesOf (toks (bl s))).length ≤ 1000000 := by rw [runesOf_length]; have := toks_length (bl s); rw [← bl_size] at this; omega
  have hrl := rune_lt (bl s)
  generalize runesOf (toks (bl s)) = rs at *
  have C := Go.Lib.hid C
  have hlen := Go.Lib.hid hlen
  have hrl := Go.Lib.hid hrl
  have hf := Go.Lib.hid fold_nil
  go_enter Tryz.func38, Tryz.ntmps38
  go_wp2_with fail
  refine C.out.mono ?_
  rintro e w1 ⟨v1, v2, rfl, h1, -, hb⟩
  obtain ⟨a, c, rfl, -⟩ := h1.rv.form
  have e0 : (zi .i32 rs).length = rs.length := zi_length ..
  rw [e0] at h1 ⊢
  have HR := Go.Lib.hid h1.rv
  clear h1 e0 C
  go_wp2_with fail
  go_loop [3, 6] (fun hv iv => ∃ k : Nat, k ≤ rs.length ∧ iv = .int .i64 (k : Int) ∧ hv = .int .u64 (foldH (rs.take k) : Int)) (fun _ iv => rs.length - (intOf iv).toNat)
  case atStart => exact ⟨0, by omega, rfl, by rw [hf.out]; rfl⟩
  case round =>
    obtain ⟨k, hk, rfl, rfl⟩ := hrel
    by_cases hlt : k < rs.length
    · obtain ⟨b, o, rfl, hc, -⟩ := HR.out.at k (by rw [zi_length]; exact hlt)
      rw [zi_at _ _ _ hlt] at hc
      have hs := foldH_snoc (rs.take k) rs[k]
      rw [← List.take_succ_eq_append_getElem hlt] at hs
      have Hs := Go.Lib.hid hs
      have Hlt := Go.Lib.hid (foldH_lt (rs.take k))
      clear hs
      generalize foldH (rs.take k) = h at *
      have Hr := Go.Lib.hid (hrl.out rs[k] (List.getElem_mem hlt))
      generalize rs[k] = r at *
      have hk6 : k ≤ 1000000 := by have := hlen.out; omega
      have Hst := Go.Lib.hid (mix_step h r Hlt.out Hr.out)
      go_wp2_with fail
      go_round
      case rel => exact ⟨k + 1, by omega, by go_num, by rw [Hst.out, Hs.out]⟩
      case measure => simp only [intOf]; omega
    · obtain rfl : k = rs.length := by omega
      rw [List.take_length]
      have Ha := Go.Lib.hid (turn_a (foldH rs) (foldH_lt rs))
      have Hb := Go.Lib.hid (turn_b (foldH rs))
      have Hc := Go.Lib.hid (turn_c (foldH rs))
      have Hh := Go.Lib.hid (show hashN rs = turnC (foldH rs) from rfl)
      generalize foldH rs = h at *
      go_wp2_with fail
      go_ret
      refine ⟨ret_int (a := bits .xor .u64 (IntKind.u64.wrap (bits .xor .u64 (h : Int) ((h : Int) / 4294967296) * 11400714819323198485)) (IntKind.u64.wrap (bits .xor .u64 (h : Int) ((h : Int) / 4294967296) * 11400714819323198485) / 536870912)) ?_, hb⟩
      rw [Ha.out, Hb.out, Hc.out, Hh.out]

end Go.Proofs.YthbnecdeebmlhaaGreat

namespace Go.Proofs.YthbnecdeebmlhaaGreat
open Go.RowKit

set_option maxRecDepth 100000 in
theorem count_c (s : ByteArray) (w : World) (hm : s.size ≤ 140737488355328) :
    Calls Tryz.prog 123 #[.string s] w fun e w' => e = .returned (.int .i64 ((toks (bl s)).length : Int)) ∧ Below w.heap.size w w' := by
  have hl1 := toks_length (bl s)
  rw [← bl_size] at hl1
  obtain ⟨T, hT⟩ : ∃ T, T = (toks (bl s)).length := ⟨_, rfl⟩
  rw [← hT] at hl1 ⊢
  have HT := Go.Lib.hid hT; clear hT
  go_enter Tryz.func123, Tryz.ntmps123
  go_wp2
  go_loopw [3] (fun u wr => ∃ n : Nat, n ≤ T ∧ u = .int .i64 (n : Int) ∧ wr.heap[w.heap.size]? = some (.stringIter s (posOf (bl s) n)) ∧ Below w.heap.size w wr) (fun u _ => T - (intOf u).toNat)
  case atStart => exact ⟨0, by omega, rfl, World.iter_heap w s 0, (Below.refl _ w).alloc (Nat.le_refl _) _⟩
  case round =>
    obtain ⟨n, hn, rfl, hit, hbw⟩ := hrel
    by_cases hlt : n < T
    · obtain ⟨p1, p2, p3, p4⟩ := next_some s n (by rw [← HT.out]; exact hlt)
      have hnx : ∀ ty, (Instr.next (.pointer (some ⟨w.heap.size, 0, none⟩)) true ty).run Tryz.prog wr = _ := fun ty => Go.Lib.run_next_any_at wr w.heap.size s _ ty hit p1
      have hit2 := Go.Lib.iterAt_heap wr w.heap.size s _ (posOf (bl s) (n + 1)) hit
      have hbw2 := below_iter hbw (Nat.le_refl _) s (posOf (bl s) (n + 1))
      rw [p3] at hnx
      rw [p2] at hnx
      clear p1 p2 p3 p4
      go_wp2
      go_roundw
      case rel => exact ⟨n + 1, by omega, by go_num, hit2, hbw2⟩
      case measure => simp [intOf]; omega
    · have hend : ¬ posOf (bl s) n < s.size := by
        rw [posOf_all (bl s) n (by rw [← HT.out]; omega), bl_size]
        exact Nat.lt_irrefl _
      have hnx : ∀ ty, (Instr.next (.pointer (some ⟨w.heap.size, 0, none⟩)) true ty).run Tryz.prog wr = _ := fun ty => Go.Lib.run_next_end_at wr w.heap.size s _ ty hit hend
      obtain rfl : n = T := by omega
      clear hend
      go_wp2
      go_ret
      exact ⟨rfl, hbw⟩

end Go.Proofs.YthbnecdeebmlhaaGreat

namespace Go.Proofs.YthbnecdeebmlhaaGreat
open Go.RowKit

set_option maxRecDepth 100000 in
theorem of_c (s : ByteArray) (w : World) (hm : s.size ≤ 1000000000) :
    Calls Tryz.prog 98 #[.string s] w fun e w' => ∃ v, e = .returned v ∧ OwnV 21 w' w.heap.size v (zi .i32 (runesOf (toks (bl s)))) ∧ Below w.heap.size w w' := by
  have hl1 := toks_length (bl s)
  rw [← bl_size] at hl1
  have C := Go.Lib.hid (count_c s w (by omega))
  obtain ⟨T, hT⟩ : ∃ T, T = (toks (bl s)).length := ⟨_, rfl⟩
  rw [← hT] at hl1 C
  have HT := Go.Lib.hid hT; clear hT
  go_enter Tryz.func98, Tryz.ntmps98
  go_wp2_with (first
    | (refine C.out.mono ?_; rintro e w1 ⟨rfl, hb1⟩)
    | (with_reducible show wpList _ _ _ (⟨some 8, _, _, _, _, _⟩ :: _) _ _; go_loud (refine wpList_make_none rfl (.const (.int .i64 0)) (.tmp 7) 114 rfl 21 Tryz.underlying114 (.int .i32 0) 4 info32 .i64 .i64 _ T rfl rfl rfl (by omega) (by omega) ?_); intro v2 w2 hown2 hg2; have hb2 := hb1.grown hg2 hb1.size (by simp))
    | fail)
  go_loopw [3] (fun u wr => ∃ (n : Nat) (v : Value), v = u ∧ n ≤ T ∧ OwnV 21 wr w.heap.size v (zi .i32 ((runesOf (toks (bl s))).take n)) ∧ wr.heap[w2.heap.size]? = some (.stringIter s (posOf (bl s) n)) ∧ Below w.heap.size w wr) (fun _ wr => s.size - wr.iterPos w2.heap.size)
  case atStart => exact ⟨0, _, rfl, by omega, (hown2.mono hb1.size).alloc _, World.iter_heap w2 s 0, hb2.alloc hb2.size _⟩
  case round =>
    obtain ⟨n, v, rfl, hn, hown, hit, hbw⟩ := hrel
    by_cases hlt : n < T
    · have hT' : n < (toks (bl s)).length := by rw [← HT.out]; exact hlt
      obtain ⟨p1, p2, p3, p4⟩ := next_some s n hT'
      have hnx : ∀ ty, (Instr.next (.pointer (some ⟨w2.heap.size, 0, none⟩)) true ty).run Tryz.prog wr = _ := fun ty => Go.Lib.run_next_any_at wr w2.heap.size s _ ty hit p1
      rw [p3] at hnx
      rw [p2] at hnx
      rw [← p4] at hnx
      have hit2 := Go.Lib.iterAt_heap wr w2.heap.size s _ (posOf (bl s) (n + 1)) hit
      have hbw2 := below_iter hbw hb2.size s (posOf (bl s) (n + 1))
      have hown2 := hown.other (w' := wr.iterAt w2.heap.size s (posOf (bl s) (n + 1))) w2.heap.size _ hit (fun _ _ _ h => by cases h) (fun j hj => Go.Lib.iterAt_other wr w2.heap.size j s _ hj)
      have hmore := Go.Lib.hid (zi_more .i32 (toks (bl s)) n hT')
      have hmeas : Hid (s.size - posOf (bl s) (n + 1) < s.size - wr.iterPos w2.heap.size) := by
        have := posOf_lt_succ (bl s) n hT'
        simp only [Hid, World.iterPos, hit]
        omega
      have hnl : ((runesOf (toks (bl s))).take n).length = n := by rw [List.length_take, runesOf_length]; omega
      have Hnl := Go.Lib.hid hnl; clear hnl
      clear p1 p2 p3 p4 hit hbw hown
      generalize (toks (bl s))[n].1 = r at hnx hmore
      generalize wr.iterAt w2.heap.size s (posOf (bl s) (n + 1)) = wi at hnx hit2 hbw2 hown2
      have hown3 := hown2.alloc (.cells #[.int .i32 (r : Int)] 21)
      have hrv := RV.one wi 21 (.int .i32 (r : Int))
      have hbw3 := hbw2.alloc hbw2.size (.cells #[.int .i32 (r : Int)] 21)
      have hit3 := iter_alloc hit2 (.cells #[.int .i32 (r : Int)] 21)
      have hone : ∀ u ∈ [Value.int .i32 (r : Int)], u.oneCell' = true := by intro u hu; obtain rfl := List.mem_singleton.1 hu; rfl
      have hln1 : ((zi .i32 ((runesOf (toks (bl s))).take n)).length + [Value.int .i32 (r : Int)].length) * 4 ≤ 140737488355328 := by rw [zi_length, Hnl.out]; simp only [List.length_cons, List.length_nil]; omega
      have hln2 : (zi .i32 ((runesOf (toks (bl s))).take n)).length + [Value.int .i32 (r : Int)].length ≤ 140737488355328 := by omega
      go_wp2_with (first
        | (with_reducible show wpList _ _ _ (⟨some 17, _, _, _, _, _⟩ :: _) _ _; refine wpList_append_RV rfl (.tmp 14) (.tmp 16) 114 rfl w.heap.size 21 Tryz.underlying114 (.int .i32 0) 4 rfl info32 v (.slice (some ⟨wi.heap.size, 0, none⟩) 1 1) (zi .i32 ((runesOf (toks (bl s))).take n)) [.int .i32 (r : Int)] rfl rfl hown3 hrv hone hln1 hln2 hbw3.size ?_; intro v4 w4 hown4 hg4; have hb4 := hbw3.grown hg4 hbw3.size hown2.row; have hit4 := iter_kept hit3 hown3 hg4)
        | fail)
      go_roundw
      case rel => exact ⟨n + 1, _, rfl, by omega, by rw [← hmore.out]; exact hown4, hit4, hb4⟩
      case measure => simp only [World.iterPos, hit4]; exact hmeas.out
    · have hend : ¬ posOf (bl s) n < s.size := by
        rw [posOf_all (bl s) n (by rw [← HT.out]; omega), bl_size]
        exact Nat.lt_irrefl _
      have hnx : ∀ ty, (Instr.next (.pointer (some ⟨w2.heap.size, 0, none⟩)) true ty).run Tryz.prog wr = _ := fun ty => Go.Lib.run_next_end_at wr w2.heap.size s _ ty hit hend
      clear hend
      rw [List.take_of_length_le (by rw [runesOf_length, ← HT.out]; omega)] at hown
      go_wp2
      go_ret
      exact ⟨_, rfl, hown, hbw⟩

end Go.Proofs.YthbnecdeebmlhaaGreat

namespace Go.Proofs.YthbnecdeebmlhaaGreat
open Go.RowKit

set_option maxHeartbeats 1000000 in
set_option maxRecDepth 100000 in
theorem hof_c (s : ByteArray) (w : World) (hm : s.size ≤ 1000000) :
    Calls Tryz.prog 59 #[.string s] w fun e w' => e = .returned (.int .u64 (hashN (runesOf (toks (bl s))) : Int)) ∧ Below w.heap.size w w' := by
  have C := of_c s w (by omega)
  have hlen : (runesOf (toks (bl s))).length ≤ 1000000 := by rw [runesOf_length]; have := toks_length (bl s); rw [← bl_size] at this; omega
  have hrl := rune_lt (bl s)
  generalize runesOf (toks (bl s)) = rs at *
  have C := Go.Lib.hid C
  have hlen := Go.Lib.hid hlen
  have hrl := Go.Lib.hid hrl
  have hf := Go.Lib.hid fold_nil
  go_enter Tryz.func59, Tryz.ntmps59
  go_wp2_with fail
  refine C.out.mono ?_
  rintro e w1 ⟨v1, rfl, h1, hb⟩
  obtain ⟨a, c, rfl, -⟩ := h1.rv.form
  have e0 : (zi .i32 rs).length = rs.length := zi_length ..
  rw [e0] at h1 ⊢
  have HR := Go.Lib.hid h1.rv
  clear h1 e0 C
  go_wp2_with fail
  go_loop [3, 9] (fun hv iv => ∃ k : Nat, k ≤ rs.length ∧ iv = .int .i64 (k : Int) ∧ hv = .int .u64 (foldH (rs.take k) : Int)) (fun _ iv => rs.length - (intOf iv).toNat)
  case atStart => exact ⟨0, by omega, rfl, by rw [hf.out]; rfl⟩
  case round =>
    obtain ⟨k, hk, rfl, rfl⟩ := hrel
    by_cases hlt : k < rs.length
    · obtain ⟨b, o, rfl, hc, -⟩ := HR.out.at k (by rw [zi_length]; exact hlt)
      rw [zi_at _ _ _ hlt] at hc
      have hs := foldH_snoc (rs.take k) rs[k]
      rw [← List.take_succ_eq_append_getElem hlt] at hs
      have Hs := Go.Lib.hid hs
      have Hlt := Go.Lib.hid (foldH_lt (rs.take k))
      clear hs
      generalize foldH (rs.take k) = h at *
      have Hr := Go.Lib.hid (hrl.out rs[k] (List.getElem_mem hlt))
      generalize rs[k] = r at *
      have hk6 : k ≤ 1000000 := by have := hlen.out; omega
      have Hst := Go.Lib.hid (mix_step h r Hlt.out Hr.out)
      go_wp2_with fail
      go_round
      case rel => exact ⟨k + 1, by omega, by go_num, by rw [Hst.out, Hs.out]⟩
      case measure => simp only [intOf]; omega
    · obtain rfl : k = rs.length := by omega
      rw [List.take_length]
      have Ha := Go.Lib.hid (turn_a (foldH rs) (foldH_lt rs))
      have Hb := Go.Lib.hid (turn_b (foldH rs))
      have Hc := Go.Lib.hid (turn_c (foldH rs))
      have Hh := Go.Lib.hid (show hashN rs = turnC (foldH rs) from rfl)
      generalize foldH rs = h at *
      go_wp2_with fail
      go_ret
      refine ⟨ret_int (a := bits .xor .u64 (IntKind.u64.wrap (bits .xor .u64 (h : Int) ((h : Int) / 4294967296) * 11400714819323198485)) (IntKind.u64.wrap (bits .xor .u64 (h : Int) ((h : Int) / 4294967296) * 11400714819323198485) / 536870912)) ?_, hb⟩
      rw [Ha.out, Hb.out, Hc.out, Hh.out]

/-- A text's hash. -/
def hashS (s : ByteArray) : Nat := hashN (runesOf (toks (bl s)))
theorem hashS_lt (s : ByteArray) : hashS s < 18446744073709551616 := by have := hashN_lt (runesOf (toks (bl s))); rw [two64_lit] at this; exact this
theorem hof_k (s : ByteArray) (n : Nat) (h : hashS s = n) (w : World) (hm : s.size ≤ 1000000) : Calls Tryz.prog 59 #[.string s] w fun e w' => e = .returned (.int .u64 (n : Int)) ∧ Below w.heap.size w w' := by subst h; exact hof_c s w hm
theorem rhash_k (s : ByteArray) (n : Nat) (h : hashS s = n) (w : World) (hm : s.size ≤ 1000000) : Calls Tryz.prog 38 #[.string s] w fun e w' => e = .returned (.int .u64 (n : Int)) ∧ Below w.heap.size w w' := by subst h; exact rhash_c s w hm

end Go.Proofs.YthbnecdeebmlhaaGreat

namespace Go.Proofs.YthbnecdeebmlhaaGreat
open Go.RowKit

def mayT (x : RecT) : Bool := mayRec x.1 x.2.1 x.2.2.1 x.2.2.2.1 x.2.2.2.2
/-- What may be is short. -/
theorem mayT_short {x : RecT} (h : mayT x = true) : x.1.size ≤ 16 ∧ x.2.2.2.2.size ≤ 24 := by
  obtain ⟨key, gone, k, n, s⟩ := x
  have hz : ∀ s : ByteArray, s.toList.isEmpty = true → s.size ≤ 24 := by
    intro s hs
    rw [ByteArray.toList_eq, List.isEmpty_iff] at hs
    have : s.size = 0 := by
      show s.data.size = 0
      rw [← Array.length_toList, hs]; rfl
    omega
  unfold mayT mayRec mayK at h
  simp only [Bool.and_eq_true, decide_eq_true_eq] at h
  refine ⟨h.1.2, ?_⟩
  show s.size ≤ 24
  have h2 := h.2
  cases gone with
  | true =>
    simp only [if_true, Bool.and_eq_true] at h2
    exact hz _ h2.2
  | false =>
    simp only [Bool.false_eq_true, if_false] at h2
    unfold mayR at h2
    split at h2
    · exact hz _ h2
    · split at h2
      · simp only [Bool.and_eq_true, decide_eq_true_eq] at h2
        exact h2.1.2
      · cases h2

end Go.Proofs.YthbnecdeebmlhaaGreat
