/-
  The contracts of the law's own device: flushes, crashes.
-/
import Derived.Test.YtdobkocckdpghaaWorF
import Derived.LoopTactic
namespace Go.Proofs.Ytdobkocckdpghaa
open Go.RowKit

def flW (S : Nat → Sec) (k : Nat) : Nat → Sec := fun j => if j < k then flSec (S j) else S j
theorem own_form {e : TypeId} {w : World} {B : Nat} {v : Value} {l : List UInt8} (h : Own e w B v l) : ∃ a c, v = .slice a l.length c := by
  rcases h.2 with ⟨rfl, h0⟩ | ⟨g, cap, cur, rfl, -⟩
  · exact ⟨none, 0, by rw [h0]⟩
  · exact ⟨_, _, rfl⟩

section
variable {w : World} {B q g1 c1 g2 c2 g3 c3 n : Nat} {X1 X2 : Nat → Value} {S : Nat → Sec} {calls fuse : Int}
set_option maxRecDepth 100000
set_option maxHeartbeats 1000000
theorem wflushes_c (h : WV w B q g1 c1 g2 c2 g3 c3 n X1 X2 S calls fuse) (h0 : -1 ≤ fuse) (h1 : fuse ≤ 9223372036854775807) (k0 : 0 ≤ calls) (k1 : calls ≤ 1000000) (hn : n ≤ 8) :
    Calls Try.prog 15 #[.pointer (some ⟨q, 0, none⟩)] w fun e w' => e = .returned (.tuple #[]) ∧ ∃ X2', WV w' B q g1 c1 g2 c2 g3 c3 n X1 X2' (fun j => flSec (S j)) (calls + 1) (burn fuse) ∧ Far q g1 g2 g3 w w' := by
  have H := Go.Lib.hid h
  have j0 := h.k0
  clear h
  go_enter Try.func15, Try.ntmps15
  go_wp2_with fail
  clear j0
  go_loopw [8] (fun c wr => ∃ (k : Nat) (Y : Nat → Value), k ≤ n ∧ c = .int .i64 (k : Int) ∧ WV wr B q g1 c1 g2 c2 g3 c3 n X1 Y (flW S k) calls fuse ∧ Far q g1 g2 g3 w wr) (fun c _ => n - (intOf c).toNat)
  case atStart => exact ⟨0, X2, by omega, rfl, H.out.congr (fun j _ => by unfold flW; rw [if_neg (by omega)]), Far.refl _ _ _ _ _⟩
  case round =>
    obtain ⟨k, Y, hk, rfl, wv, hfar⟩ := hrel
    clear H
    by_cases hkn : k < n
    · obtain ⟨a1, a2, a3, a4, a5⟩ := wv.apart
      have a6 := wv.ne
      have q0 := wv.k0
      have q1 := wv.k1
      have q2 := wv.k2
      have s1 := wv.r1 k hkn
      have s2 := wv.r2 k hkn
      have s3 := wv.r3 k hkn
      have z2 := wv.fz2 k
      have z3 := wv.fz3 k
      have hat : flW S k k = S k := by unfold flW; rw [if_neg (by omega)]
      have ho := wv.e1 k hkn
      rw [hat] at ho s3
      have hl := (wv.whole k hkn).1
      rw [hat] at hl
      obtain ⟨xa, xc, hx⟩ := own_form ho
      rw [hl] at hx
      rw [hx] at s1 ho
      obtain ⟨ya, yc, hy⟩ := own_form (wv.e2 k hkn)
      rw [(wv.whole k hkn).2] at hy
      rw [hy] at s2
      have hX : WV (((wr.setCell ⟨g2, k, none⟩ (.slice xa 64 xc)).setCell ⟨g3, k, none⟩ (.bool false)).drew) B q g1 c1 g2 c2 g3 c3 n X1 (upV Y k (.slice xa 64 xc)) (flW S (k + 1)) calls fuse := by
        refine (((wv.set2 k hkn _ _ ho hl).set3 k hkn false).drew).congr (fun j _ => ?_)
        unfold flW upS
        by_cases e : j = k
        · subst e; simp [flSec]
        · simp only [if_neg e]
          by_cases e2 : j < k
          · rw [if_pos e2, if_pos (by omega)]
          · rw [if_neg e2, if_neg (by omega)]
      have HX := Go.Lib.hid hX
      have HF := Go.Lib.hid (((hfar.set (o := k) (.inr (.inr (.inl rfl))) (.slice xa 64 xc)).set (o := k) (.inr (.inr (.inr rfl))) (.bool false)).drew)
      have hkI : (k : Int) < (n : Int) := by omega
      have HW := Go.Lib.hid (show (k : Int) + 1 = ((k + 1 : Nat) : Int) from by omega)
      have hn1 := a1.symm
      have hn2 := a2.symm
      have hn3 := a3.symm
      have hn4 := a4.symm
      have hn5 := a5.symm
      have hn6 := a6.symm
      clear hX wv hfar ho hl hx hy hat
      go_upto_region 3 with (fail)
      go_region_held3 (fun w' => w'.cell? ⟨q, 0, none⟩ = some (.slice (some ⟨g1, 0, none⟩) n c1) ∧ w'.cell? ⟨q, 1, none⟩ = some (.slice (some ⟨g2, 0, none⟩) n c2) ∧ w'.cell? ⟨q, 2, none⟩ = some (.slice (some ⟨g3, 0, none⟩) n c3) ∧ w'.cell? ⟨g1, k, none⟩ = some (.slice xa 64 xc)) (go_keep) (fail)
      go_wp2_with fail
      go_roundw
      case rel => exact ⟨k + 1, _, by omega, by rw [HW.out], HX.out, HF.out⟩
      case measure => simp only [intOf]; omega
    · obtain rfl : k = n := by omega
      have HX := Go.Lib.hid (wv.congr (S' := fun j => flSec (S j)) (fun j hj => by unfold flW; rw [if_pos hj]))
      have HF := Go.Lib.hid hfar
      clear wv hfar
      go_wp2_with fail
      refine (wnext_c HX.out h0 h1 k0 k1).mono ?_
      rintro e w4 ⟨rfl, hw, hf⟩
      go_wp2_with fail
      go_end0
      exact ⟨rfl, _, hw, HF.out.trans hf⟩

def crW (S : Nat → Sec) (keep : List Bool) (k : Nat) : Nat → Sec := fun j => if j < k ∧ (S j).loose = true then ⟨keptS S keep j, keptS S keep j, false⟩ else S j
theorem crW_at (S : Nat → Sec) (keep : List Bool) (k : Nat) : crW S keep k k = S k := by unfold crW; rw [if_neg (by omega)]
theorem crW_next (S : Nat → Sec) (keep : List Bool) (k : Nat) (hl : (S k).loose = true) (j : Nat) : crW S keep (k + 1) j = upS (crW S keep k) k ⟨keptS S keep k, keptS S keep k, false⟩ j := by
  by_cases e : j = k
  · subst e; unfold crW upS; rw [if_pos ⟨by omega, hl⟩, if_pos rfl]
  · have hh : upS (crW S keep k) k ⟨keptS S keep k, keptS S keep k, false⟩ j = crW S keep k j := by unfold upS; rw [if_neg e]
    rw [hh]
    unfold crW
    by_cases e2 : j < k ∧ (S j).loose = true
    · rw [if_pos e2, if_pos ⟨by omega, e2.2⟩]
    · rw [if_neg e2, if_neg (by rintro ⟨h1, h2⟩; exact e2 ⟨by omega, h2⟩)]
theorem crW_same (S : Nat → Sec) (keep : List Bool) (k : Nat) (hl : (S k).loose = false) (j : Nat) : crW S keep (k + 1) j = crW S keep k j := by
  unfold crW
  by_cases e : j = k
  · subst e; rw [if_neg (by rw [hl]; simp), if_neg (by rw [hl]; simp)]
  · by_cases e2 : j < k ∧ (S j).loose = true
    · rw [if_pos e2, if_pos ⟨by omega, e2.2⟩]
    · rw [if_neg e2, if_neg (by rintro ⟨h1, h2⟩; exact e2 ⟨by omega, h2⟩)]
theorem crW_all (S : Nat → Sec) (keep : List Bool) (n : Nat) (hc : Clean S n) (j : Nat) (hj : j < n) : crS S keep j = crW S keep n j := by
  unfold crW crS
  by_cases e : (S j).loose = true
  · rw [if_pos ⟨hj, e⟩]
  · rw [if_neg (fun h => e h.2)]
    have e' : (S j).loose = false := by simpa using e
    have h1 := hc j hj e'
    have h2 : keptS S keep j = (S j).kept := by unfold keptS; rw [if_neg (fun h => e h.1)]
    rw [h2]
    cases hs : S j with
    | mk a b c =>
      rw [hs] at h1 e'
      simp only at h1 e' ⊢
      rw [h1, e']

theorem wcrashes_c (h : WV w B q g1 c1 g2 c2 g3 c3 n X1 X2 S calls fuse) (hc : Clean S n) (kv : Value) (keep : List Bool) (hv : RV w kv (zb keep)) (hB : B ≤ w.heap.size) (hn : n ≤ 8) (hkb : 0 < keep.length → ∀ b o, (∃ l c, kv = .slice (some ⟨b, o, none⟩) l c) → b < B) :
    Calls Try.prog 18 #[.pointer (some ⟨q, 0, none⟩), kv] w fun e w' => e = .returned (.tuple #[]) ∧ ∃ Y1 Y2, WV w' B q g1 c1 g2 c2 g3 c3 n Y1 Y2 (crS S keep) 0 (-1) ∧ Far q g1 g2 g3 w w' := by
  have H := Go.Lib.hid h
  have j0 := h.k0
  obtain ⟨ka, kcap, hkv, hklen, hknil⟩ := hv.zbForm
  obtain ⟨kl, hkl⟩ : ∃ kl, kl = keep.length := ⟨_, rfl⟩
  rw [← hkl] at hkv hklen
  subst hkv
  have HKL := Go.Lib.hid hkl; clear hkl
  have HV := Go.Lib.hid hv
  have HKB := Go.Lib.hid (show 0 < kl → ∀ b o, ka = some ⟨b, o, none⟩ → b < B from fun h0 b o e => hkb (by rw [← HKL.out]; exact h0) b o ⟨kl, kcap, by rw [e]⟩)
  clear h hv hkb hknil
  go_enter Try.func18, Try.ntmps18
  go_wp2_with fail
  clear j0
  go_loopw [4, 11] (fun u c wr => ∃ (k : Nat) (Y Z : Nat → Value), k ≤ n ∧ c = .int .i64 (k : Int) ∧ u = .int .i64 ((rankD (lf S) k : Nat) : Int) ∧ WV wr B q g1 c1 g2 c2 g3 c3 n Y Z (crW S keep k) calls fuse ∧ Far q g1 g2 g3 w wr) (fun _ c _ => n - (intOf c).toNat)
  case atStart => exact ⟨0, X1, X2, by omega, rfl, rfl, H.out.congr (fun j _ => by unfold crW; rw [if_neg (by omega)]), Far.refl _ _ _ _ _⟩
  case round =>
    obtain ⟨k, Y, Z, hk, rfl, rfl, wv, hfar⟩ := hrel
    clear H
    by_cases hkn : k < n
    · have hat := crW_at S keep k
      have q2 := wv.k2
      have s3 := wv.r3 k hkn
      rw [hat] at s3
      have hkI : (k : Int) < (n : Int) := by omega
      have HW := Go.Lib.hid (show (k : Int) + 1 = ((k + 1 : Nat) : Int) from by omega)
      have hrk : rankD (lf S) k ≤ k := looseL_length_le _ _
      have hrs := rankD_succ (lf S) k
      cases hlo : (S k).loose with
      | false =>
        rw [hlo] at s3
        rw [if_neg (by show ¬ (S k).loose = true; rw [hlo]; decide)] at hrs
        have HR := Go.Lib.hid hrs
        have HX := Go.Lib.hid (wv.congr (fun j _ => crW_same S keep k hlo j))
        have HF := Go.Lib.hid hfar
        have HLO := Go.Lib.hid hlo
        clear wv hfar hat hrs hlo
        generalize rankD (lf S) k = r at *
        go_wp2_with fail
        go_roundw
        case rel => exact ⟨k + 1, _, _, by omega, by rw [HW.out], by rw [HR.out]; rfl, HX.out, HF.out⟩
        case measure => simp only [intOf]; omega
      | true =>
        rw [hlo] at s3
        rw [if_pos (show lf S k = true from hlo)] at hrs
        have HR := Go.Lib.hid hrs
        have hwr : ((rankD (lf S) k : Nat) : Int) + 1 = ((rankD (lf S) k + 1 : Nat) : Int) := by omega
        have HWR := Go.Lib.hid hwr
        obtain ⟨a1, a2, a3, a4, a5⟩ := wv.apart
        have a6 := wv.ne
        have hn1 := a1.symm
        have hn2 := a2.symm
        have hn3 := a3.symm
        have hn4 := a4.symm
        have hn5 := a5.symm
        have hn6 := a6.symm
        have q0 := wv.k0
        have q1 := wv.k1
        have s1 := wv.r1 k hkn
        have s2 := wv.r2 k hkn
        have z1 := wv.fz1 k
        have z2 := wv.fz2 k
        have z3 := wv.fz3 k
        have ho1 := wv.e1 k hkn
        have ho2 := wv.e2 k hkn
        rw [hat] at ho1 ho2
        have hl1 := (wv.whole k hkn).1
        have hl2 := (wv.whole k hkn).2
        rw [hat] at hl1 hl2
        obtain ⟨xa, xc, hx⟩ := own_form ho1
        rw [hl1] at hx
        rw [hx] at s1 ho1
        obtain ⟨ya, yc, hy⟩ := own_form ho2
        rw [hl2] at hy
        rw [hy] at s2 ho2
        have hbel := hfar.below wv.lq wv.l1 wv.l2 wv.l3 hB
        have HWV := Go.Lib.hid wv
        have HFAR := Go.Lib.hid hfar
        have HXV := Go.Lib.hid hx
        have HO1 := Go.Lib.hid ho1
        have HO2 := Go.Lib.hid ho2
        have HL1 := Go.Lib.hid hl1
        have HL2 := Go.Lib.hid hl2
        have HLO := Go.Lib.hid hlo
        have HAT := Go.Lib.hid hat
        clear wv hfar ho1 ho2 hl1 hl2 hx hy hlo hat hwr hrs
        have hks : Go.RowKit.Hid (keptS S keep k = if keep.getD (rankD (lf S) k) false = true then (S k).now else (S k).kept) := by
          show _ = _
          unfold keptS
          rw [HLO.out]
          simp only [true_and]
        -- no keeping
        have HXn : keep.getD (rankD (lf S) k) false = false → Go.RowKit.Hid (WV (((wr.setCell ⟨g1, k, none⟩ (.slice ya 64 yc)).setCell ⟨g3, k, none⟩ (.bool false)).drew) B q g1 c1 g2 c2 g3 c3 n (upV Y k (.slice ya 64 yc)) Z (crW S keep (k + 1)) calls fuse) := fun hkf => by
          refine (((HWV.out.set1 k hkn _ _ HO2.out HL2.out).set3 k hkn false).drew).congr (fun j _ => ?_)
          rw [crW_next S keep k HLO.out j, hks.out, hkf, if_neg (by decide)]
          unfold upS
          by_cases e : j = k
          · simp [e, HAT.out]
          · simp [e]
        have HFn := Go.Lib.hid (((HFAR.out.set (o := k) (.inr (.inl rfl)) (.slice ya 64 yc)).set (o := k) (.inr (.inr (.inr rfl))) (.bool false)).drew)
        by_cases hrl : rankD (lf S) k < kl
        · obtain ⟨kb, ko, rfl, hkc, hkbl⟩ := HV.out.zbAt (rankD (lf S) k) (by rw [← HKL.out]; exact hrl)
          have hget : keep.getD (rankD (lf S) k) false = keep[rankD (lf S) k]'(by rw [← HKL.out]; exact hrl) := by rw [List.getD_eq_getElem?_getD, List.getElem?_eq_getElem (by rw [← HKL.out]; exact hrl)]; rfl
          rw [← hget] at hkc
          clear hget
          have hkc := (hbel.cell (p := ⟨kb, ko + rankD (lf S) k, none⟩) (HKB.out (by omega) kb ko rfl)).trans hkc
          have hrI : ((rankD (lf S) k : Nat) : Int) < (kl : Int) := by omega
          cases hkf : keep.getD (rankD (lf S) k) false with
          | false =>
            rw [hkf] at hkc
            have HX := HXn hkf
            have HF := HFn
            clear hbel HXn HFn hkf hks HWV HFAR HO1 HO2
            generalize rankD (lf S) k = r at *
            go_upto_region 8 with (fail)
            go_region_held3 (fun w' => w'.cell? ⟨q, 0, none⟩ = some (.slice (some ⟨g1, 0, none⟩) n c1) ∧ w'.cell? ⟨q, 1, none⟩ = some (.slice (some ⟨g2, 0, none⟩) n c2) ∧ w'.cell? ⟨q, 2, none⟩ = some (.slice (some ⟨g3, 0, none⟩) n c3) ∧ w'.cell? ⟨g2, k, none⟩ = some (.slice ya 64 yc)) (go_keep) (fail)
            go_wp2_with fail
            go_roundw
            case rel => exact ⟨k + 1, _, _, by omega, by rw [HW.out], by rw [HR.out, HWR.out], HX.out, HF.out⟩
            case measure => simp only [intOf]; omega
          | true =>
            rw [hkf] at hkc
            have HX1 := Go.Lib.hid ((HWV.out.set2 k hkn _ _ HO1.out HL1.out).drew)
            have HX : Go.RowKit.Hid (WV (((((wr.setCell ⟨g2, k, none⟩ (.slice xa 64 xc)).drew).setCell ⟨g1, k, none⟩ (.slice xa 64 xc)).setCell ⟨g3, k, none⟩ (.bool false)).drew) B q g1 c1 g2 c2 g3 c3 n (upV Y k (.slice xa 64 xc)) (upV Z k (.slice xa 64 xc)) (crW S keep (k + 1)) calls fuse) := by
              have ho := HX1.out.e2 k hkn
              unfold upV upS at ho
              simp only [if_pos] at ho
              refine (((HX1.out.set1 k hkn _ _ ho HL1.out).set3 k hkn false).drew).congr (fun j _ => ?_)
              rw [crW_next S keep k HLO.out j, hks.out, hkf, if_pos rfl]
              unfold upS
              by_cases e : j = k
              · simp [e, HAT.out]
              · simp [e]
            have HF := Go.Lib.hid ((((HFAR.out.set (o := k) (.inr (.inr (.inl rfl))) (.slice xa 64 xc)).drew.set (o := k) (.inr (.inl rfl)) (.slice xa 64 xc)).set (o := k) (.inr (.inr (.inr rfl))) (.bool false)).drew)
            have p0 := HX1.out.k0
            have p1 := HX1.out.k1
            have p2 := HX1.out.k2
            have p3 := HX1.out.r1 k hkn
            rw [HXV.out] at p3
            have p4 := HX1.out.r2 k hkn
            rw [show upV Z k (.slice xa 64 xc) k = .slice xa 64 xc from by unfold upV; rw [if_pos rfl]] at p4
            have p5 := HX1.out.r3 k hkn
            rw [show (upS (crW S keep k) k ⟨(crW S keep k k).now, (S k).now, (crW S keep k k).loose⟩ k).loose = true from by unfold upS; rw [if_pos rfl]; show (crW S keep k k).loose = true; rw [HAT.out]; exact HLO.out] at p5
            have y1 := HX1.out.fz1 k
            have y3 := HX1.out.fz3 k
            clear hbel HXn HFn hkf hks HWV HFAR HO1 HO2
            generalize rankD (lf S) k = r at *
            go_upto_region 6 with (fail)
            go_region_held3 (fun w' => w'.cell? ⟨q, 0, none⟩ = some (.slice (some ⟨g1, 0, none⟩) n c1) ∧ w'.cell? ⟨q, 1, none⟩ = some (.slice (some ⟨g2, 0, none⟩) n c2) ∧ w'.cell? ⟨g1, k, none⟩ = some (.slice xa 64 xc)) (go_keep) (fail)
            clear q0 q1 q2 s1 s2 s3 z1 z2 z3 hkc HX1
            generalize (wr.setCell ⟨g2, k, none⟩ (.slice xa 64 xc)).drew = wx at *
            go_upto_region 8 with (fail)
            go_region_held3 (fun w' => w'.cell? ⟨q, 0, none⟩ = some (.slice (some ⟨g1, 0, none⟩) n c1) ∧ w'.cell? ⟨q, 1, none⟩ = some (.slice (some ⟨g2, 0, none⟩) n c2) ∧ w'.cell? ⟨q, 2, none⟩ = some (.slice (some ⟨g3, 0, none⟩) n c3) ∧ w'.cell? ⟨g2, k, none⟩ = some (.slice xa 64 xc)) (go_keep) (fail)
            go_wp2_with fail
            go_roundw
            case rel => exact ⟨k + 1, _, _, by omega, by rw [HW.out], by rw [HR.out, HWR.out], HX.out, HF.out⟩
            case measure => simp only [intOf]; omega
        · have hrI : ¬ ((rankD (lf S) k : Nat) : Int) < (kl : Int) := by omega
          have hkf : keep.getD (rankD (lf S) k) false = false := by rw [List.getD_eq_getElem?_getD, List.getElem?_eq_none (by have := HKL.out; omega)]; rfl
          have HX := HXn hkf
          have HF := HFn
          clear hbel HXn HFn hkf hks HWV HFAR HO1 HO2
          generalize rankD (lf S) k = r at *
          go_upto_region 8 with (fail)
          go_region_held3 (fun w' => w'.cell? ⟨q, 0, none⟩ = some (.slice (some ⟨g1, 0, none⟩) n c1) ∧ w'.cell? ⟨q, 1, none⟩ = some (.slice (some ⟨g2, 0, none⟩) n c2) ∧ w'.cell? ⟨q, 2, none⟩ = some (.slice (some ⟨g3, 0, none⟩) n c3) ∧ w'.cell? ⟨g2, k, none⟩ = some (.slice ya 64 yc)) (go_keep) (fail)
          go_wp2_with fail
          go_roundw
          case rel => exact ⟨k + 1, _, _, by omega, by rw [HW.out], by rw [HR.out, HWR.out], HX.out, HF.out⟩
          case measure => simp only [intOf]; omega
    · obtain rfl : k = n := by omega
      have HX := Go.Lib.hid (wv.congr (S' := crS S keep) (fun j hj => crW_all S keep k hc j hj))
      have HF := Go.Lib.hid hfar
      have z3 := wv.fz 3
      have z4 := wv.fz 4
      have q3 := wv.k3
      have q4 := wv.k4
      clear wv hfar
      go_wp2_with fail
      go_end0
      exact ⟨rfl, _, _, (HX.out.setCalls _).setFuse _, (HF.out.set (.inl rfl) _).set (.inl rfl) _⟩
end

end Go.Proofs.Ytdobkocckdpghaa
