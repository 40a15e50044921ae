/-
  Records by the generic laws of slices (XGenS): their layout.
  The reference's Pairs: the records that are not gone.
  Package value: contracts of Put, of what may be.
-/
import Derived.Test.YtibbligidncocaaM15
import Derived.Test.YtibbligidncocaaM17
import Derived.Test.YtibbligidncocaaM16
import Derived.Laws.Tables
import Derived.LoopTactic
import Derived.Deep.DeepMust
import Derived.Deep.DeepCutAuto
import Derived.Test.YtibbligidncocaaM22
namespace Go.Proofs.Ytibbligidncocaa
open Go.RowKit

def K5 : Lay RecT := ⟨rc5, 5, 39, 22, .agg #[.string ⟨#[]⟩, .bool false, .int .i64 0, .int .i64 0, .string ⟨#[]⟩], 56⟩
theorem K5_ok : K5.Ok Try.prog := ⟨by decide, fun _ => rfl, fun x u hu => by
  have hu : u ∈ rc5 x := hu
  simp only [rc5, List.mem_cons, List.not_mem_nil, or_false] at hu
  rcases hu with rfl | rfl | rfl | rfl | rfl <;> rfl, Try.underlying22, info5, rfl, by decide⟩
theorem own5 {w : World} {B : Nat} {v : Value} {L : List RecT} : OwnRec w B v L = K5.O w B v L := rfl

end Go.Proofs.Ytibbligidncocaa

namespace Go.Proofs.Ytibbligidncocaa
open Go.RowKit

def liveK (l : List RecT) : List RecT := l.filter fun x => !x.2.1
theorem liveK_snoc (l : List RecT) (x : RecT) : liveK (l ++ [x]) = if x.2.1 then liveK l else liveK l ++ [x] := by
  unfold liveK
  rw [List.filter_append]
  cases h : x.2.1 <;> simp [h]
theorem liveK_length (l : List RecT) : (liveK l).length ≤ l.length := List.length_filter_le _ _
theorem build_pair (kx : ByteArray) (ax nx : Int) (sx : ByteArray) (W : World) : (Instr.build 42 #[(0, .string kx), (1, .agg #[.int .i64 ax, .int .i64 nx, .string sx])]).run Try.prog W = .ok (.agg #[.string kx, .int .i64 ax, .int .i64 nx, .string sx]) W :=
  run_build W _ _ _ (by kernel_rfl)
theorem K4.one1 (w : World) (x : RecT) : K4.R (w.alloc (.cells #[.string x.1, .int .i64 x.2.2.1, .int .i64 x.2.2.2.1, .string x.2.2.2.2] 42)) (.slice (some ⟨w.heap.size, 0, none⟩) 1 1) [x] := Lay.R.one w K4_ok x 42 (0, 0)

def VQ6 (b os n cap k : Nat) (u : Value) (kx sx : ByteArray) (ax nx : Int) : Nat → World → Value → Prop
  | 17, _, v => v = u
  | 18, _, v => v = .slice (some ⟨b, os, none⟩) n cap
  | 19, _, v => v = .int .i64 (k : Int)
  | 20, _, v => v = .pointer (some ⟨b, os + k * 5, none⟩)
  | 21, _, v => v = .pointer (some ⟨b, os + k * 5, none⟩)
  | 22, _, v => v = .string kx
  | 23, _, v => v = .slice (some ⟨b, os, none⟩) n cap
  | 24, _, v => v = .int .i64 (k : Int)
  | 25, _, v => v = .pointer (some ⟨b, os + k * 5, none⟩)
  | 26, _, v => v = .pointer (some ⟨b, os + k * 5 + 2, none⟩)
  | 27, _, v => v = .agg #[.int .i64 ax, .int .i64 nx, .string sx]
  | 28, _, v => v = .agg #[.string kx, .int .i64 ax, .int .i64 nx, .string sx]
  | 29, w, v => K4.R w v [(kx, false, ax, nx, sx)]
  | _, _, _ => True

theorem VQ6_below (b os n cap k : Nat) (u : Value) (kx sx : ByteArray) (ax nx : Int) : ∀ (i : Nat) (w w' : World) (v : Value), VQ6 b os n cap k u kx sx ax nx i w v → Below w.heap.size w w' → VQ6 b os n cap k u kx sx ax nx i w' v := by
  intro i w w' v h hb
  unfold VQ6 at h ⊢
  split at h <;> first | exact h | trivial | exact RB.below h hb | exact Own.below h hb | exact OwnV.below h hb | exact OwnRec.below h hb | exact Lay.R.below h hb

set_option maxHeartbeats 2000000 in
set_option maxRecDepth 100000 in
theorem rpairs_c (v : Value) (l : List RecT) (w : World) (h : RS w v l) (hl : l.length ≤ 100000) :
    Calls Try.prog 31 #[v] w fun e w' => ∃ v', e = .returned v' ∧ K4.O w' w.heap.size v' (liveK l) ∧ Below w.heap.size w w' := by
  obtain ⟨ad, cap, rfl, hm⟩ := h.form
  have H := Go.Lib.hid h
  clear h
  go_enter Try.func31, Try.ntmps31
  go_wp2_with fail
  go_loopw [3, 4] (fun ov i' wr => ∃ (k : Nat) (u : Value), u = ov ∧ i' = .int .i64 (k : Int) ∧ k ≤ l.length ∧ K4.O wr w.heap.size u (liveK (l.take k)) ∧ Below w.heap.size w wr) (fun _ i' _ => l.length - (intOf i').toNat)
  case atStart => exact ⟨0, _, rfl, rfl, by omega, Lay.O.nil _ _, Below.refl _ _⟩
  case round =>
    obtain ⟨k, u, rfl, rfl, hk, hO, hb⟩ := hrel
    by_cases hlt : k < l.length
    · obtain ⟨b, os, rfl, -, hbl, c0, c1, c2, c3, c4⟩ := H.out.at k hlt
      have D0 := (hb.cell (p := ⟨b, os + k * 5, none⟩) hbl).trans c0
      have D1 := (hb.cell (p := ⟨b, os + k * 5 + 1, none⟩) hbl).trans c1
      have D2 := (hb.cell (p := ⟨b, os + k * 5 + 2, none⟩) hbl).trans c2
      have D3 := (hb.cell (p := ⟨b, os + k * 5 + 3, none⟩) hbl).trans c3
      have D4 := (hb.cell (p := ⟨b, os + k * 5 + 4, none⟩) hbl).trans c4
      have hbl2 : b < wr.heap.size := Nat.lt_of_lt_of_le hbl hb.size
      have i1 := run_idx5 b os l.length cap k hlt
      have hsn := liveK_snoc (l.take k) l[k]
      rw [← List.take_succ_eq_append_getElem hlt] at hsn
      have hml := liveK_length (l.take k)
      rw [List.length_take] at hml
      generalize l[k] = x at *
      obtain ⟨kx, gx, ax, nx, sx⟩ := x
      simp only [] at D0 D1 D2 D3 D4 hsn
      have I1 := Go.Lib.hid i1
      have Hsn := Go.Lib.hid hsn
      generalize liveK (l.take k) = m at *
      have HO := Go.Lib.hid hO
      clear c0 c1 c2 c3 c4 hsn hO
      cases gx with
      | true =>
        have HO2 : Hid (K4.O wr w.heap.size u (liveK (l.take (k + 1)))) := Go.Lib.hid (by rw [Hsn.out]; exact HO.out)
        clear Hsn HO
        go_wp2_with fail
        go_roundw
        case rel => exact ⟨k + 1, u, rfl, by go_num, by omega, HO2.out, hb⟩
        case measure => simp only [intOf]; omega
      | false =>
        have Hsn2 : Hid (liveK (l.take (k + 1)) = m ++ [(kx, false, ax, nx, sx)]) := Hsn
        have hbp := Go.Lib.hid (build_pair kx ax nx sx)
        have hml6 : m.length + [((kx, false, ax, nx, sx) : RecT)].length ≤ 1000000 := by simp; omega
        have HML := Go.Lib.hid hml6
        clear Hsn hml6
        go_upto_region 6 with (fail)
        clear i1
        refine wp_region_head 13 (by decide) (by kernel_rfl) (VQ6 b os l.length cap k u kx sx ax nx) (VQ6_below b os l.length cap k u kx sx ax nx) (by decide +kernel) (by rfl) [17, 18, 19, 20, 21, 22, 23, 24, 25, 26, 27, 28, 29] (by rfl) ?_ ?_
        · intro i o hin ho a w6 hb6 hlen hg
          have d0 := (hb6.cell (p := ⟨b, os + k * 5, none⟩) hbl2).trans D0
          have d2 := (hb6.cell (p := ⟨b, os + k * 5 + 2, none⟩) hbl2).trans D2
          have d3 := (hb6.cell (p := ⟨b, os + k * 5 + 3, none⟩) hbl2).trans D3
          have d4 := (hb6.cell (p := ⟨b, os + k * 5 + 4, none⟩) hbl2).trans D4
          match i, hin, ho with
          | 0, hin, ho =>
            obtain rfl := Option.some.inj ho
            have h3 := given_old hg 3 (by decide +kernel)
            clear hg
            exact st_yield ho (wanted_none rfl) (u) w6 (by simp [execOp, Act.eval, h3, go_sem]) ⟨_, rfl, Below.refl _ _, by rintro t' ⟨⟩; rfl⟩
          | 1, hin, ho =>
            obtain rfl := Option.some.inj ho
            have h0 := given_old hg 0 (by decide +kernel)
            clear hg
            exact st_yield ho (wanted_none rfl) (.slice (some ⟨b, os, none⟩) l.length cap) w6 (by simp [execOp, Act.eval, h0, go_sem]) ⟨_, rfl, Below.refl _ _, by rintro t' ⟨⟩; rfl⟩
          | 2, hin, ho =>
            obtain rfl := Option.some.inj ho
            have h4 := given_old hg 4 (by decide +kernel)
            clear hg
            exact st_yield ho (wanted_none rfl) (.int .i64 (k : Int)) w6 (by simp [execOp, Act.eval, h4, go_sem]) ⟨_, rfl, Below.refl _ _, by rintro t' ⟨⟩; rfl⟩
          | 3, hin, ho =>
            obtain rfl := Option.some.inj ho
            obtain ⟨_, h18, rfl⟩ := given_fed hg 18 (by decide +kernel)
            obtain ⟨_, h19, rfl⟩ := given_fed hg 19 (by decide +kernel)
            clear hg
            exact st_yield ho (wanted_none rfl) (.pointer (some ⟨b, os + k * 5, none⟩)) w6 (by simp [execOp, Act.eval, h18, h19, go_sem, I1.out w6]) ⟨_, rfl, Below.refl _ _, by rintro t' ⟨⟩; rfl⟩
          | 4, hin, ho =>
            obtain rfl := Option.some.inj ho
            obtain ⟨_, h20, rfl⟩ := given_fed hg 20 (by decide +kernel)
            clear hg
            exact st_yield ho (wanted_none rfl) (.pointer (some ⟨b, os + k * 5, none⟩)) w6 (by simp [execOp, Act.eval, h20, go_sem]) ⟨_, rfl, Below.refl _ _, by rintro t' ⟨⟩; rfl⟩
          | 5, hin, ho =>
            obtain rfl := Option.some.inj ho
            obtain ⟨_, h21, rfl⟩ := given_fed hg 21 (by decide +kernel)
            clear hg
            exact st_yield ho (wanted_none rfl) (.string kx) w6 (by simp [execOp, Act.eval, h21, go_sem, d0]) ⟨_, rfl, Below.refl _ _, by rintro t' ⟨⟩; rfl⟩
          | 6, hin, ho =>
            obtain rfl := Option.some.inj ho
            have h0 := given_old hg 0 (by decide +kernel)
            clear hg
            exact st_yield ho (wanted_none rfl) (.slice (some ⟨b, os, none⟩) l.length cap) w6 (by simp [execOp, Act.eval, h0, go_sem]) ⟨_, rfl, Below.refl _ _, by rintro t' ⟨⟩; rfl⟩
          | 7, hin, ho =>
            obtain rfl := Option.some.inj ho
            have h4 := given_old hg 4 (by decide +kernel)
            clear hg
            exact st_yield ho (wanted_none rfl) (.int .i64 (k : Int)) w6 (by simp [execOp, Act.eval, h4, go_sem]) ⟨_, rfl, Below.refl _ _, by rintro t' ⟨⟩; rfl⟩
          | 8, hin, ho =>
            obtain rfl := Option.some.inj ho
            obtain ⟨_, h23, rfl⟩ := given_fed hg 23 (by decide +kernel)
            obtain ⟨_, h24, rfl⟩ := given_fed hg 24 (by decide +kernel)
            clear hg
            exact st_yield ho (wanted_none rfl) (.pointer (some ⟨b, os + k * 5, none⟩)) w6 (by simp [execOp, Act.eval, h23, h24, go_sem, I1.out w6]) ⟨_, rfl, Below.refl _ _, by rintro t' ⟨⟩; rfl⟩
          | 9, hin, ho =>
            obtain rfl := Option.some.inj ho
            obtain ⟨_, h25, rfl⟩ := given_fed hg 25 (by decide +kernel)
            clear hg
            exact st_yield ho (wanted_none rfl) (.pointer (some ⟨b, os + k * 5 + 2, none⟩)) w6 (by simp [execOp, Act.eval, h25, go_sem]) ⟨_, rfl, Below.refl _ _, by rintro t' ⟨⟩; rfl⟩
          | 10, hin, ho =>
            obtain rfl := Option.some.inj ho
            obtain ⟨_, h26, rfl⟩ := given_fed hg 26 (by decide +kernel)
            clear hg
            exact st_yield ho (wanted_none rfl) (.agg #[.int .i64 ax, .int .i64 nx, .string sx]) w6 (by simp [execOp, Act.eval, h26, go_sem, d2, d3, d4]) ⟨_, rfl, Below.refl _ _, by rintro t' ⟨⟩; rfl⟩
          | 11, hin, ho =>
            obtain rfl := Option.some.inj ho
            obtain ⟨_, h22, rfl⟩ := given_fed hg 22 (by decide +kernel)
            obtain ⟨_, h27, rfl⟩ := given_fed hg 27 (by decide +kernel)
            clear hg
            exact st_yield ho (wanted_none rfl) (.agg #[.string kx, .int .i64 ax, .int .i64 nx, .string sx]) w6 (by simp [execOp, Act.eval, h22, h27, hbp.out w6]) ⟨_, rfl, Below.refl _ _, by rintro t' ⟨⟩; rfl⟩
          | 12, hin, ho =>
            obtain rfl := Option.some.inj ho
            obtain ⟨_, h28, rfl⟩ := given_fed hg 28 (by decide +kernel)
            clear hg
            exact st_yield ho (wanted_none rfl) (.slice (some ⟨w6.heap.size, 0, none⟩) 1 1) (w6.alloc (.cells #[.string kx, .int .i64 ax, .int .i64 nx, .string sx] 42)) (by simp [execOp, Act.eval, h28, go_sem]) ⟨_, rfl, (Below.refl _ _).alloc (Nat.le_refl _) _, by rintro t' ⟨⟩; exact K4.one1 w6 (kx, false, ax, nx, sx)⟩
          | n + 13, hin, ho => omega
        · intro f w3 hb3 hv'
          have h17 := hv' 17 (by decide)
          have h29 := hv' 29 (by decide)
          simp only [VQ6] at h17 h29
          obtain ⟨v3, e3, hr3⟩ : ∃ v3, f 29 = v3 ∧ K4.R w3 v3 [(kx, false, ax, nx, sx)] := ⟨_, rfl, h29⟩
          have hb4 := hb.trans (hb3.mono hb.size)
          have HB3 := Go.Lib.hid hb4
          have hsz := hb4.size
          have HO3 := Go.Lib.hid (HO.out.below hb3)
          have HR3 := Go.Lib.hid hr3
          clear hv' h29 hr3 hb3 D0 D1 D2 D3 D4 HO hb hb4
          unfold putAll
          simp only [List.foldl, List.drop]
          simp only [h17, e3]
          go_simp
          go_wp2_with (first
            | (with_reducible show wpList _ _ _ (⟨some 30, _, _, _, _, _⟩ :: _) _ _; go_must (refine K4_ok.append rfl (.tmp 17) (.tmp 29) rfl w.heap.size u v3 m [(kx, false, ax, nx, sx)] rfl rfl HO3.out HR3.out HML.out hsz ?_); go_must (intro v4 w4 ho4 hg4; have hb5 := HB3.out.grown hg4 hsz HO3.out.row; have HO4 := Go.Lib.hid ho4; clear hg4 ho4))
            | fail)
          go_roundw
          case rel => exact ⟨k + 1, _, rfl, by go_num, by omega, by rw [Hsn2.out]; exact HO4.out, hb5⟩
          case measure => simp only [intOf]; omega
    · obtain rfl : k = l.length := by omega
      rw [List.take_length] at hO
      have HO := Go.Lib.hid hO
      clear hO
      go_wp2_with fail
      go_ret
      exact ⟨_, rfl, HO.out, hb⟩

end Go.Proofs.Ytibbligidncocaa

namespace Go.Proofs.Ytibbligidncocaa
open Go.RowKit
open Go.Lib (uvarint zigzag)

set_option maxRecDepth 100000 in
theorem vput_c (v : Value) (l : List UInt8) (k n : Int) (s : List UInt8) (w : World) (hv : RB w v l) (hm : mayR k n (str s) = true) (h0 : -9223372036854775808 ≤ n) (h1 : n ≤ 9223372036854775807) (hl : l.length ≤ 100000) :
    Calls Try.prog 89 #[v, rawV k n (str s)] w fun e w' => ∃ v', e = .returned v' ∧ Own 5 w' w.heap.size v' (l ++ putV k n s) ∧ Below w.heap.size w w' := by
  have C0 := Go.Lib.hid fun W => vof_c k n (str s) W
  rcases mayR_cases hm with ⟨rfl, rfl⟩ | ⟨rfl, rfl, hs⟩
  · have e0 := of_num hm
    have C0 := C0.out
    rw [e0] at C0
    simp only [VI.val, VI.v] at C0
    have C0' := Go.Lib.hid C0
    clear C0 hm e0
    have C1 := Go.Lib.hid fun W (h : RB W v l) => put_c v l 1 W h (by omega) (by omega) (by omega)
    have hz := Go.Lib.uvarint_length64 (Go.Lib.zigzag_lt (x := 1) (by omega) (by omega))
    have C2 := Go.Lib.hid fun v' W (h : RB W v' (l ++ uvarint (zigzag 1))) => put_c v' (l ++ uvarint (zigzag 1)) n W h h0 h1 (by rw [List.length_append]; omega)
    have he : Hid (l ++ uvarint (zigzag 1) ++ uvarint (zigzag n) = l ++ putV 1 n []) := by unfold Hid putV; rw [if_pos rfl, List.append_assoc]
    clear hz h0 h1 hl
    generalize uvarint (zigzag 1) = uk at *
    generalize uvarint (zigzag n) = un at *
    unfold rawV at C0' ⊢
    have hR0 := Go.Lib.hid (hv.below (below_one w (.cells #[.int .i64 1, .int .i64 n, .string (str [])] 37)))
    clear hv
    go_enter Try.func89, Try.ntmps89
    go_wp2_with fail
    refine (C0'.out _).mono ?_
    rintro e w1 ⟨rfl, hb1⟩
    obtain ⟨x0, x1, x2⟩ := box_cells _ _ _ _ _ _ hb1
    have hbb1 := (below_one w _).trans (hb1.mono (below_one w _).size)
    have hR1 := Go.Lib.hid ((hR0.out.below hb1).below (below_one w1 (.cells #[.iface 148 (.int .i64 n)] 135)))
    have Hbo := Go.Lib.hid (hbb1.trans ((below_one w1 (.cells #[.iface 148 (.int .i64 n)] 135)).mono hbb1.size))
    have xx := fun (c : Option Value) (p : Addr) (h : w1.cell? p = c) (o : Obj) (hp : p.block < w1.heap.size) => ((below_one w1 o).cell hp).trans h
    have hlt : w.heap.size < w1.heap.size := by
      have h1 := hb1.size
      have h2 := (Array.getElem?_eq_some_iff.1 (heap_alloc_new w (.cells #[.int .i64 1, .int .i64 n, .string (str [])] 37))).1
      omega
    have y0 := fun o => xx _ _ x0 o hlt
    have y1 := fun o => xx _ _ x1 o hlt
    have y2 := fun o => xx _ _ x2 o hlt
    clear xx hb1 hbb1 hR0 C0' x0 x1 x2
    go_wp2_with fail
    refine (C1.out _ hR1.out).mono ?_
    rintro e w2 ⟨v2, rfl, hown2, hb2⟩
    have hlt2 := Nat.lt_of_lt_of_le hlt ((below_one w1 (.cells #[.iface 148 (.int .i64 n)] 135)).size)
    have z0 := (hb2.cell hlt2).trans (y0 _)
    have z1 := (hb2.cell hlt2).trans (y1 _)
    have hbb2 := Hbo.out.trans (hb2.mono Hbo.out.size)
    have hR2 := hown2.rb
    clear y0 y1 y2 hR1 Hbo hlt hlt2 C1 hb2 hown2
    go_wp2_with fail
    refine (C2.out _ _ hR2).mono ?_
    rintro e w3 ⟨v3, rfl, hown3, hb3⟩
    have hbb3 := hbb2.trans (hb3.mono hbb2.size)
    have hown3' := hown3.mono hbb2.size
    rw [he.out] at hown3'
    clear hown3 hb3 z0 z1 hR2
    go_wp2_with fail
    go_ret
    exact ⟨_, rfl, hown3', hbb3⟩
  · have e0 := of_text hm
    have C0 := C0.out
    rw [e0] at C0
    simp only [VI.val, VI.v] at C0
    have C0' := Go.Lib.hid C0
    clear C0 hm e0
    have C1 := Go.Lib.hid fun W (h : RB W v l) => put_c v l 2 W h (by omega) (by omega) (by omega)
    have hz := Go.Lib.uvarint_length64 (Go.Lib.zigzag_lt (x := 2) (by omega) (by omega))
    have C2 := fun v' W (h : RB W v' (l ++ uvarint (zigzag 2))) => putText_c v' (l ++ uvarint (zigzag 2)) (str s) W h (by rw [List.length_append, str_size]; omega)
    have he : Hid (l ++ uvarint (zigzag 2) ++ putT s = l ++ putV 2 0 s) := by unfold Hid putV; rw [if_neg (by omega), List.append_assoc]
    rw [show (str s).data.toList = s from by simp [str]] at C2
    have C2 := Go.Lib.hid C2
    clear hz h0 h1 hl
    generalize uvarint (zigzag 2) = uk at *
    generalize putT s = un at *
    unfold rawV at C0' ⊢
    have hR0 := Go.Lib.hid (hv.below (below_one w (.cells #[.int .i64 2, .int .i64 0, .string (str s)] 37)))
    clear hv
    go_enter Try.func89, Try.ntmps89
    go_wp2_with fail
    refine (C0'.out _).mono ?_
    rintro e w1 ⟨rfl, hb1⟩
    obtain ⟨x0, x1, x2⟩ := box_cells _ _ _ _ _ _ hb1
    have hbb1 := (below_one w _).trans (hb1.mono (below_one w _).size)
    have hR1 := Go.Lib.hid ((hR0.out.below hb1).below (below_one w1 (.cells #[.iface 149 (.string (str s))] 135)))
    have Hbo := Go.Lib.hid (hbb1.trans ((below_one w1 (.cells #[.iface 149 (.string (str s))] 135)).mono hbb1.size))
    have xx := fun (c : Option Value) (p : Addr) (h : w1.cell? p = c) (o : Obj) (hp : p.block < w1.heap.size) => ((below_one w1 o).cell hp).trans h
    have hlt : w.heap.size < w1.heap.size := by
      have h1 := hb1.size
      have h2 := (Array.getElem?_eq_some_iff.1 (heap_alloc_new w (.cells #[.int .i64 2, .int .i64 0, .string (str s)] 37))).1
      omega
    have y0 := fun o => xx _ _ x0 o hlt
    have y1 := fun o => xx _ _ x1 o hlt
    have y2 := fun o => xx _ _ x2 o hlt
    clear xx hb1 hbb1 hR0 C0' x0 x1 x2
    go_wp2_with fail
    refine (C1.out _ hR1.out).mono ?_
    rintro e w2 ⟨v2, rfl, hown2, hb2⟩
    have hlt2 := Nat.lt_of_lt_of_le hlt ((below_one w1 (.cells #[.iface 149 (.string (str s))] 135)).size)
    have z0 := (hb2.cell hlt2).trans (y0 _)
    have z1 := (hb2.cell hlt2).trans (y2 _)
    have hbb2 := Hbo.out.trans (hb2.mono Hbo.out.size)
    have hR2 := hown2.rb
    clear y0 y1 y2 hR1 Hbo hlt hlt2 C1 hb2 hown2
    go_wp2_with fail
    refine (C2.out _ _ hR2).mono ?_
    rintro e w3 ⟨v3, rfl, hown3, hb3⟩
    have hbb3 := hbb2.trans (hb3.mono hbb2.size)
    have hown3' := hown3.mono hbb2.size
    rw [he.out] at hown3'
    clear hown3 hb3 z0 z1 hR2
    go_wp2_with fail
    go_ret
    exact ⟨_, rfl, hown3', hbb3⟩

end Go.Proofs.Ytibbligidncocaa
