/-
  The law's same: are just those sectors free?
-/
import Derived.Test.YtheljojjpnpdaaaExtR
namespace Go.Proofs.Ytheljojjpnpdaaa
open Go.RowKit

theorem flatS_snoc (L : List (Nat × Nat)) (a q q' : Nat) : (flatS (L ++ [(a, q)])).set (L.length * 2 + 1) (.int .i64 (q' : Int)) = flatS (L ++ [(a, q')]) := by
  rw [flatS_append, flatS_append, List.set_append_right _ _ (by rw [flatS_length]; omega), flatS_length]
  rw [show L.length * 2 + 1 - L.length * 2 = 1 from by omega]
  rfl
/-- The last one's length is stored. -/
theorem OwnS.store {w : World} {B g n c a q : Nat} {L : List (Nat × Nat)} (h : OwnS w B (.slice (some ⟨g, 0, none⟩) n c) (L ++ [(a, q)])) (x : Int) (q' : Nat) (hx : x = (q' : Int)) : OwnS (w.setCell ⟨g, L.length * 2 + 1, none⟩ (.int .i64 x)) B (.slice (some ⟨g, 0, none⟩) n c) (L ++ [(a, q')]) ∧ w.grownBy (w.setCell ⟨g, L.length * 2 + 1, none⟩ (.int .i64 x)) (some g) := by
  subst hx
  obtain ⟨a1, c1, e, -⟩ := h.form
  simp only [Value.slice.injEq] at e
  obtain ⟨-, rfl, rfl⟩ := e
  unfold OwnS at h ⊢
  have hs := World.ownsRow.stored h (L.length * 2 + 1) (.int .i64 (q' : Int))
  rw [flatS_snoc] at hs
  rw [show (L ++ [(a, q)]).length = (L ++ [(a, q')]).length from by simp] at hs ⊢
  exact hs
theorem OwnS.frozen {w : World} {B g n c : Nat} {L : List (Nat × Nat)} (h : OwnS w B (.slice (some ⟨g, 0, none⟩) n c) L) (j : Nat) : w.frozen? ⟨g, j, none⟩ = false := by
  rcases h.2 with ⟨h', -⟩ | ⟨g', cap', cur, h', -, hg, -⟩
  · cases h'
  · simp only [Value.slice.injEq, Option.some.injEq, Addr.mk.injEq, and_true] at h'
    obtain ⟨rfl, -⟩ := h'
    exact frozen_of_row w g j cur _ hg

section
variable {w : World} {B r at_ n g M c : Nat} {v : Value} {G : Nat → Bool}
set_option maxHeartbeats 1000000
set_option maxRecDepth 100000
theorem same_c (hr : RM w B r at_ n v G) (hf : OwnV 4 w B (.slice (some ⟨g, 0, none⟩) M c) (zf M G)) (hM : at_ + n ≤ M) (hM2 : M ≤ 1000) : Calls Try.prog 14 #[.pointer (some ⟨r, 0, none⟩), .slice (some ⟨g, 0, none⟩) M c] w fun e w' => e = .returned (.bool true) ∧ Below w.heap.size w w' := by
  have HR := Go.Lib.hid hr
  have HF := Go.Lib.hid hf
  have HM := Go.Lib.hid hM
  have hend1 : spS G M = spS G (at_ + n) := by
    have := spS_none G (at_ + n) (M - (at_ + n)) (fun k k1 _ => hr.out k (.inr k1))
    rwa [show at_ + n + (M - (at_ + n)) = M from by omega] at this
  have hend2 : cntF G (at_ + n) = cntF G M := by
    have := cntF_none G (at_ + n) (M - (at_ + n)) (fun k k1 _ => hr.out k (.inr k1))
    rw [show at_ + n + (M - (at_ + n)) = M from by omega] at this
    exact this.symm
  have E1 := Go.Lib.hid hend1
  have E2 := Go.Lib.hid hend2
  clear hr hf hM hend1 hend2
  go_enter Try.func14, Try.ntmps14
  go_wp2_with fail
  go_loopw [5, 6, 7] (fun lv nv kv wr => ∃ (k q : Nat) (u : Value) (L : List (Nat × Nat)), u = lv ∧ k ≤ M ∧ kv = .int .i64 (k : Int) ∧ nv = .int .i64 (q : Int) ∧ Hid (q = cntF G k ∧ q ≤ k) ∧ Hid (L = spS G k) ∧ OwnS wr w.heap.size u L ∧ Below w.heap.size w wr) (fun _ _ kv _ => M - (intOf kv).toNat)
  case atStart => exact ⟨0, 0, _, [], rfl, by omega, rfl, rfl, Go.Lib.hid ⟨rfl, Nat.le_refl _⟩, Go.Lib.hid rfl, OwnS.nil _ _, Below.refl _ _⟩
  case round =>
    obtain ⟨k, q, u, L, rfl, hk, rfl, rfl, hq, hL, hown, hb⟩ := hrel
    by_cases hkM : k < M
    · have hc := (HF.out.below hb).fcell k hkM
      have hkI : (k : Int) < (M : Int) := by omega
      have HK := Go.Lib.hid hkM
      cases hG : G k with
      | false =>
        rw [hG] at hc
        have HL2 := Go.Lib.hid (show L = spS G (k + 1) by rw [spS_off hG]; exact hL.out)
        have HQ2 := Go.Lib.hid (show q = cntF G (k + 1) ∧ q ≤ k + 1 from ⟨by show q = cntF G k + _; rw [hG]; exact hq.out.1, by have := hq.out.2; omega⟩)
        clear hq hL hG hkM
        go_wp2_with fail
        go_roundw
        case rel => exact ⟨k + 1, q, _, L, rfl, by have := HK.out; omega, by go_num, rfl, HQ2, HL2, hown, hb⟩
        case measure => simp only [intOf]; have := HK.out; omega
      | true =>
        rw [hG] at hc
        have HQ2 := Go.Lib.hid (show q + 1 = cntF G (k + 1) ∧ q + 1 ≤ k + 1 from ⟨by show q + 1 = cntF G k + _; rw [hG, hq.out.1]; rfl, by have := hq.out.2; omega⟩)
        obtain ⟨Q, hQ⟩ : ∃ Q : Int, Q = (q : Int) + 1 := ⟨_, rfl⟩
        have kQ : IntKind.i64.wrap ((q : Int) + 1) = Q := by rw [hQ, IntKind.wrap_i64]; have := hq.out.2; omega
        have HQ := Go.Lib.hid (show Q = ((q + 1 : Nat) : Int) by rw [hQ]; rfl)
        have hln : L.length ≤ k := by rw [hL.out]; exact spS_len G k
        have hnew : (k = 0 ∨ G (k - 1) = false) → Hid (L ++ [(k, 1)] = spS G (k + 1)) := fun h => Go.Lib.hid (by rw [spS_new hG h, hL.out])
        have hown3 := hown.below (below_alloc wr (.cells #[.int .i64 (k : Int), .int .i64 1] 30))
        have hb3 := below_on hb (below_alloc wr (.cells #[.int .i64 (k : Int), .int .i64 1] 30))
        have hnw := heap_alloc_new wr (.cells #[.int .i64 (k : Int), .int .i64 1] 30)
        have N0 := Go.Lib.hid (show (wr.alloc (.cells #[.int .i64 (k : Int), .int .i64 1] 30)).cell? ⟨wr.heap.size, 0, none⟩ = some (.int .i64 (((k, 1) : Nat × Nat).1 : Int)) from by rw [cell_of_row _ _ 0 _ _ _ hnw]; rfl)
        have N1 := Go.Lib.hid (show (wr.alloc (.cells #[.int .i64 (k : Int), .int .i64 1] 30)).cell? ⟨wr.heap.size, 1, none⟩ = some (.int .i64 (((k, 1) : Nat × Nat).2 : Int)) from by rw [cell_of_row _ _ 1 _ _ _ hnw]; rfl)
        have HO3 := Go.Lib.hid hown3
        have HB3 := Go.Lib.hid hb3
        have HLn := Go.Lib.hid (show L.length ≤ 100000 by omega)
        clear hQ hnw hown3 hb3
        by_cases hk0 : k = 0
        · have hk0I : ¬ (0 : Int) < (k : Int) := by omega
          have HN := hnew (.inl hk0)
          clear hnew hq hL hG hown hb hkM hk0 hln
          go_wp2_with (first
            | (with_reducible show wpList _ _ _ (⟨some 46, _, _, _, _, _⟩ :: _) _ _; go_loud (refine wpList_append_span rfl (.tmp 42) (.tmp 45) rfl w.heap.size u L wr.heap.size (k, 1) rfl rfl HO3.out N0.out N1.out HLn.out HB3.out.size ?_); intro v6 w6 hown6 hg6; have HB6 := Go.Lib.hid (HB3.out.grown hg6 HB3.out.size HO3.out.row); clear hg6)
            | fail)
          go_roundw
          case rel => exact ⟨k + 1, q + 1, _, _, rfl, by have := HK.out; omega, by go_num, by rw [HQ.out], HQ2, HN, hown6, HB6.out⟩
          case measure => simp only [intOf]; have := HK.out; omega
        · have hk0I : (0 : Int) < (k : Int) := by omega
          have hc2 := (HF.out.below hb).fcell (k - 1) (by omega)
          obtain ⟨j, hj⟩ : ∃ j, j = k - 1 := ⟨_, rfl⟩
          have kj : IntKind.i64.wrap ((k : Int) - 1) = (j : Int) := by rw [IntKind.wrap_i64]; omega
          rw [← hj] at hc2
          have hjI : (j : Int) < (M : Int) := by omega
          have hjN : j < M := by omega
          cases hG2 : G j with
          | false =>
            rw [hG2] at hc2
            have HN := hnew (.inr (by rw [← hj]; exact hG2))
            clear hnew hq hL hG hG2 hown hb hkM hk0 hln hj
            go_wp2_with (first
              | (with_reducible show wpList _ _ _ (⟨some 46, _, _, _, _, _⟩ :: _) _ _; go_loud (refine wpList_append_span rfl (.tmp 42) (.tmp 45) rfl w.heap.size u L wr.heap.size (k, 1) rfl rfl HO3.out N0.out N1.out HLn.out HB3.out.size ?_); intro v6 w6 hown6 hg6; have HB6 := Go.Lib.hid (HB3.out.grown hg6 HB3.out.size HO3.out.row); clear hg6)
              | fail)
            go_roundw
            case rel => exact ⟨k + 1, q + 1, _, _, rfl, by have := HK.out; omega, by go_num, by rw [HQ.out], HQ2, HN, hown6, HB6.out⟩
            case measure => simp only [intOf]; have := HK.out; omega
          | true =>
            rw [hG2] at hc2
            obtain ⟨L1, a, m, e1, e2⟩ := (spS_rows G k).last (by omega) (by rw [← hj]; exact hG2)
            have e3 : L = L1 ++ [(a, m)] := hL.out.trans e1
            have HN := Go.Lib.hid (show L1 ++ [(a, m + 1)] = spS G (k + 1) by rw [spS_more hG (by omega) (by rw [← hj]; exact hG2), e1, bump_snoc])
            subst e3
            have hm : m ≤ k := by omega
            obtain ⟨ua, uc, rfl, -, -⟩ := hown.form
            have hlen : (L1 ++ [(a, m)]).length = L1.length + 1 := by simp
            rw [hlen] at hown hln
            obtain ⟨g', rfl, -, -, s1, -, -⟩ := hown.at L1.length (by simp)
            have hf' := hown.frozen (L1.length * 2 + 1)
            rw [show (L1 ++ [(a, m)])[L1.length]'(by simp) = (a, m) from by simp] at s1
            have hst := fun x q' hx => hown.store x q' hx
            obtain ⟨P, hP⟩ : ∃ P, P = L1.length := ⟨_, rfl⟩
            rw [← hP] at s1 hf' hst hln
            rw [hlen, ← hP]
            have kP : IntKind.i64.wrap (((P + 1 : Nat) : Int) - 1) = (P : Int) := by rw [IntKind.wrap_i64]; omega
            obtain ⟨Z, hZ⟩ : ∃ Z : Int, Z = (m : Int) + 1 := ⟨_, rfl⟩
            have kZ : IntKind.i64.wrap ((m : Int) + 1) = Z := by rw [hZ, IntKind.wrap_i64]; omega
            have HS := Go.Lib.hid (hst Z (m + 1) (by rw [hZ]; rfl))
            have HB := Go.Lib.hid hb
            have hlow := Go.Lib.hid (hown.row g' rfl)
            have s1 : wr.cell? ⟨g', P * 2 + 1, none⟩ = some (.int .i64 (m : Int)) := s1
            have hPN : P < P + 1 := by omega
            clear hnew hq hL hG hG2 hown hb hkM hk0 hj hst hZ e1 e2 N0 N1 HO3 HB3 HLn hlen hP hm
            go_wp2_with fail
            go_roundw
            case rel => exact ⟨k + 1, q + 1, _, _, rfl, by have := HK.out; omega, by go_num, by rw [HQ.out], HQ2, HN, HS.out.1, HB.out.grown HS.out.2 HB.out.size (fun k' hk' => by cases hk'; exact hlow.out)⟩
            case measure => simp only [intOf]; have := HK.out; omega
    · obtain rfl : k = M := by omega
      have hrr := HR.out.below hb
      have C1 := Go.Lib.hid (spans_q hrr L (by rw [hL.out, E1.out]))
      have C2 := Go.Lib.hid fun w2 (h : RM w2 B r at_ n v G) => free_q h (q : Int) (by rw [E2.out, hq.out.1])
      obtain ⟨ua, uc, rfl, -, -⟩ := hown.form
      obtain ⟨N, hN⟩ : ∃ N, N = L.length := ⟨_, rfl⟩
      rw [← hN] at C1 hown ⊢
      have hN2 : N ≤ 1000 := by rw [hN, hL.out]; have := spS_len G k; omega
      have HNn := Go.Lib.hid hN
      have HO := Go.Lib.hid hown
      have HB := Go.Lib.hid hb
      have HRr := Go.Lib.hid hrr
      clear hkM hq hL hown hb hrr hN
      go_wp2_with fail
      refine C1.out.mono ?_
      rintro e w3 ⟨sa, sk, rfl, ho3, hb3⟩
      have HO3 := Go.Lib.hid ho3
      have HP3 := Go.Lib.hid (HO.out.below hb3)
      have HB3 := Go.Lib.hid (below_on HB.out hb3)
      have C3 := Go.Lib.hid (C2.out w3 (HRr.out.below hb3))
      clear ho3 hb3 C1 C2 HO HB HRr
      go_wp2_with fail
      refine C3.out.mono ?_
      rintro e w4 ⟨rfl, rfl⟩
      clear C3
      go_wp2_with fail
      go_loopw [9] (fun iv' wx => ∃ i : Nat, i ≤ N ∧ iv' = .int .i64 (i : Int) ∧ Hid (∃ d, wx = w3.drewN d)) (fun iv' _ => N - (intOf iv').toNat)
      case atStart => exact ⟨0, by omega, rfl, Go.Lib.hid ⟨0, rfl⟩⟩
      case round =>
        obtain ⟨i, hi, rfl, hd⟩ := hrel
        obtain ⟨d, hd⟩ := hd.out
        subst hd
        by_cases hiN : i < N
        · have hiI : (i : Int) < (N : Int) := by omega
          obtain ⟨g1, rfl, -, s0, s1, -, -⟩ := HO3.out.at i (by rw [← HNn.out]; exact hiN)
          obtain ⟨g2, rfl, -, t0, t1, -, -⟩ := HP3.out.at i (by rw [← HNn.out]; exact hiN)
          obtain ⟨y, hy⟩ : ∃ y, y = L[i]'(by rw [← HNn.out]; exact hiN) := ⟨_, rfl⟩
          rw [← hy] at s0 s1 t0 t1
          clear hy
          have HI := Go.Lib.hid hiN
          go_upto_region 17 with (fail)
          go_quiet (fail)
          go_wp2_with fail
          go_roundw
          case rel => exact ⟨i + 1, by have := HI.out; omega, by go_num, Go.Lib.hid ⟨_, rfl⟩⟩
          case measure => simp only [intOf]; have := HI.out; omega
        · obtain rfl : i = N := by omega
          go_wp2_with fail
          go_ret
          exact ⟨rfl, below_drewN HB3.out d⟩
end

end Go.Proofs.Ytheljojjpnpdaaa
