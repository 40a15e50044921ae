/-
  The contract of super's encode.
  The contracts of bytes.Equal and of super's decode.
  A *dev.Dev in memory: its sectors' row, its life. Plain facts.
  The contracts of dev: Len, has, Calls, Dead, Fuse, count.
  The contract of dev.New; a row of sectors that is made.
  The contract of dev's Loose.
  The contract of dev's Write.
  The contract of dev's Flush.
-/
import Derived.Test.YtnalokjnbccjnaaGreatDoorM06
import Derived.Test.YtnalokjnbccjnaaGreatDoorM02
import Derived.Test.YtnalokjnbccjnaaGreatDoorM05
import Derived.Deep.MidRow
import Derived.Laws.IdiomCopy
import Derived.Deep.DeepCutAuto
import Derived.LoopTactic
namespace Go.Proofs.YtnalokjnbccjnaaGreatDoor
open Go.RowKit

/-- What stands while the sum is reckoned, and behind it. -/
structure JE (w0 : World) (B g : Nat) (l : List UInt8) (w : World) : Prop where
  below : Below B w0 w
  tab : Tab w
  own : Own 5 w B (.slice (some ⟨g, 0, none⟩) 64 64) l
theorem Tab.below2 {w w' : World} {B : Nat} (h : Tab w) (hb : Below B w w') (hB : 0 < B) : Tab w' := fun i hi => (hb.cell (by show 0 < B; exact hB)).trans (h i hi)
theorem JE.tail {w0 w : World} {B g : Nat} {l : List UInt8} (h : JE w0 B g l w) (hl : l.length = 64) : RB w (.slice (some ⟨g, 4, none⟩) 60 60) (l.drop 4) := by
  have h1 := h.own.rb.cut 4 64 (by omega) (by omega)
  have e : (l.take 64).drop 4 = l.drop 4 := by rw [List.take_of_length_le (by omega)]
  rw [e] at h1
  exact h1
def IE (w0 : World) (B g : Nat) (l3 : List UInt8) (s : Nat) (done : Nat → Bool) (w : World) : Prop := (done 6 = true → done 4 = true) ∧ JE w0 B g (if done 6 then putAt l3 0 (leN 4 s) else l3) w
theorem IE.keep {w0 w : World} {B g s : Nat} {l3 : List UInt8} {done : Nat → Bool} (h : IE w0 B g l3 s done w) (i : Nat) (hi : i ≠ 6) : IE w0 B g l3 s (doneToo done i) w := by
  obtain ⟨h1, h2⟩ := h
  refine ⟨fun hd => ?_, ?_⟩
  · rw [doneToo_other (Ne.symm hi)] at hd
    unfold doneToo
    split <;> simp [h1 hd]
  · rw [doneToo_other (Ne.symm hi)]
    exact h2
def VE (g s : Nat) : Nat → World → Value → Prop
  | 21, _, v => v = .slice (some ⟨g, 0, none⟩) 64 64
  | 22, _, v => v = .slice (some ⟨g, 0, none⟩) 4 64
  | 23, _, v => v = .slice (some ⟨g, 0, none⟩) 64 64
  | 24, _, v => v = .slice (some ⟨g, 4, none⟩) 60 60
  | 25, _, v => v = .int .u32 (s : Int)
  | 26, _, v => v = .int .u64 (s : Int)
  | 27, _w, v => v = .tuple #[]
  | _, _, _ => True

theorem VE_below (g s : Nat) : ∀ (i : Nat) (w w' : World) (v : Value), VE g s i w v → Below w.heap.size w w' → VE g s i w' v := by
  intro i w w' v h hb
  unfold VE at h ⊢
  split at h <;> first | exact h | trivial | exact RB.below h hb | exact Own.below h hb

theorem VE_any (g s : Nat) : ∀ (i : Nat) (w w' : World) (v : Value), VE g s i w v → VE g s i w' v := by
  intro i w w' v h
  unfold VE at h ⊢
  split at h <;> first | exact h | trivial

set_option maxHeartbeats 1000000 in
set_option maxRecDepth 100000 in
theorem sencode_c (w : World) (v : Value) (text : List UInt8) (t : Nat) (hv : RB w v text) (hl : text.length ≤ 40) (ht : t ≤ 1099511627776) (hT : Tab w) :
    Calls Tryz.prog 76 #[v, .int .i64 (t : Int)] w fun e w' => ∃ u, e = .returned u ∧ Own 5 w' w.heap.size u (encS text t) ∧ Below w.heap.size w w' := by
  have hvb := hv
  obtain ⟨a, cap, rfl, -, -, -⟩ := hv
  have HV := Go.Lib.hid hvb
  have HT := Go.Lib.hid hT
  have hlt : (t : Int) ≤ 1099511627776 := by omega
  have hll : (text.length : Int) ≤ 40 := by omega
  clear hvb hT
  obtain ⟨m, hm⟩ : ∃ m, m = text.length := ⟨_, rfl⟩
  rw [← hm] at hll HV ⊢
  have HM := Go.Lib.hid hm
  clear hm hl ht
  obtain ⟨g, hgd⟩ : ∃ g, g = w.heap.size := ⟨_, rfl⟩
  have HG := Go.Lib.hid hgd
  have hTB : 0 < w.heap.size := World.block_lt_of_cell? w _ (HT.out 0 (by decide))
  have HTB := Go.Lib.hid hTB
  rw [← hgd] at HTB ⊢
  clear hTB hgd
  go_enter Tryz.func76, Tryz.ntmps76
  go_wp2_with (first
    | (with_reducible show wpList _ _ _ (⟨some 6, _, _, _, _, _⟩ :: _) _ _; go_must (refine wpList_make_own rfl (.const (.int .i64 64)) (.const (.int .i64 64)) 45 rfl 5 Tryz.underlying45 info8 .i64 .i64 64 64 64 rfl rfl rfl rfl (by omega) g HG.out ?_); go_must (intro w1 ho1 hb1 hs1; have H1 := Go.Lib.hid ho1; have HB1 := Go.Lib.hid hb1; clear ho1 hb1))
    | fail)
  have C1 := sput_c t w1 g g 4 8 60 64 64 (List.replicate 64 0) H1.out (by rw [List.length_replicate]; omega) (by omega) (Nat.le_refl _)
  refine C1.mono ?_
  rintro e w2 ⟨rfl, ho2, hb2⟩
  have HB2 := Go.Lib.hid (HB1.out.trans hb2)
  obtain ⟨l1, hL1⟩ : ∃ l1, l1 = putAt (List.replicate 64 (0 : UInt8)) 4 (leN 8 t) := ⟨_, rfl⟩
  rw [← hL1] at ho2
  have hl1 : l1.length = 64 := by rw [hL1, putAt_length (by rw [leN_length, List.length_replicate]; omega), List.length_replicate]
  have HL1 := Go.Lib.hid hL1
  obtain ⟨c12, hc12⟩ : ∃ c : Int, w2.cell? ⟨g, 12, none⟩ = some (.int .u8 c) := ⟨_, ho2.cell 12 (by omega)⟩
  have hf12 := ho2.frozenAt 12
  have hst := ho2.store 12 (UInt8.ofNat m) (m : Int) (by rw [UInt8.toNat_ofNat']; omega)
  have HST := Go.Lib.hid hst
  have HB3 := Go.Lib.hid (below_put HB2.out (Nat.le_refl g) 12 (.int .u8 (m : Int)))
  have HV3 := Go.Lib.hid (HV.out.below (HB3.out.mono (by rw [← HG.out]; exact Nat.le_refl _)))
  have hl2 : (l1.set 12 (UInt8.ofNat m)).length = 64 := by simpa using hl1
  have Hl2 := Go.Lib.hid hl2
  have hw8 : (m : Int) % 256 = (m : Int) := by omega
  have HMr := Go.Lib.hid (show m = text.length from HM.out)
  clear ho2 hb2 hst hl1 hL1 hl2 HB1 HB2 H1
  go_wp2_with (first
    | (with_reducible show wpList _ _ _ (⟨some 20, _, _, _, _, _⟩ :: _) _ _; go_must (refine wpList_copy_at rfl (.tmp 18) (.tmp 19) 45 rfl g 5 Tryz.underlying45 info8 g 13 51 51 64 64 (.slice a m cap) _ text rfl rfl HST.out HV3.out (by rw [← HMr.out]; omega) (by rw [Hl2.out, ← HMr.out]; omega) w HB3.out ?_); go_must (intro w3 ho3 hb3; have H3 := Go.Lib.hid ho3; have HB4 := Go.Lib.hid hb3; clear ho3 hb3; rw [← HMr.out]))
    | fail)
  obtain ⟨l3, hL3⟩ : ∃ l3, l3 = putAt (l1.set 12 (UInt8.ofNat m)) 13 text := ⟨_, rfl⟩
  have hl3 : l3.length = 64 := by rw [hL3, putAt_length (by rw [Hl2.out, ← HMr.out]; omega), Hl2.out]
  obtain ⟨s, hs⟩ : ∃ s, s = (crcSum (l3.drop 4)).toNat := ⟨_, rfl⟩
  have hs32 : s < 4294967296 := by rw [hs]; exact (crcSum (l3.drop 4)).isLt
  have h3 := H3.out
  rw [← hL3] at h3
  have HS := Go.Lib.hid hs.symm
  have HE : Hid (putAt l3 0 (leN 4 s) = encS text t) := Go.Lib.hid (by rw [hs, hL3, HL1.out, HMr.out]; exact encS_made text t (by rw [← HMr.out]; omega))
  have hTB : 0 < g := HTB.out
  have hT3 := HT.out.below2 HB4.out hTB
  have hI0 : IE w g g l3 s (fun _ => false) w3.drew := ⟨fun h => (by cases h), ⟨HB4.out.trans ((below_drewN (B := w3.heap.size) (Below.refl _ w3) 1).mono (by have := HB4.out.size; rw [← HG.out] at this; exact this)), hT3.below (below_drewN (B := w3.heap.size) (Below.refl _ w3) 1), h3.drew⟩⟩
  have hsm : IntKind.u64.wrap (s : Int) = (s : Int) := by rw [IntKind.wrap_u64]; omega
  have hBg : g ≤ g := Nat.le_refl _
  have HH := Go.Lib.hid HMr.out
  clear HST H3 HB3 HV3 Hl2 hw8 C1 hc12 hf12 HL1 hL3 hs h3 hs1 hT3
  refine wp_region_inv (by kernel_rfl) (VE g s) (IE w g g l3 s) (by decide +kernel) (by decide +kernel) (by rfl) [21, 22, 23, 24, 25, 26, 27] (by rfl) (hI0) ?_ ?_
  · intro i o ho a w6 done hI hnot hr hlen hg
    match i, ho with
    | 0, ho =>
      obtain rfl := Option.some.inj ho
      have h5 := given_old hg 5 (by decide +kernel)
      clear hg
      exact st_yield ho (wanted_none rfl) (.slice (some ⟨g, 0, none⟩) 64 64) w6 (by simp [execOp, Act.eval, h5, go_sem]) ⟨_, rfl, hI.keep 0 (by decide), fun _ _ h => h, by rintro t' ⟨⟩; rfl⟩
    | 1, ho =>
      obtain rfl := Option.some.inj ho
      obtain ⟨_, h21, rfl⟩ := given_fed hg 21 (by decide +kernel)
      clear hg
      exact st_yield ho (wanted_none rfl) (.slice (some ⟨g, 0, none⟩) 4 64) w6 (by simp [execOp, Act.eval, h21, go_sem]) ⟨_, rfl, hI.keep 1 (by decide), fun _ _ h => h, by rintro t' ⟨⟩; rfl⟩
    | 2, ho =>
      obtain rfl := Option.some.inj ho
      have h5 := given_old hg 5 (by decide +kernel)
      clear hg
      exact st_yield ho (wanted_none rfl) (.slice (some ⟨g, 0, none⟩) 64 64) w6 (by simp [execOp, Act.eval, h5, go_sem]) ⟨_, rfl, hI.keep 2 (by decide), fun _ _ h => h, by rintro t' ⟨⟩; rfl⟩
    | 3, ho =>
      obtain rfl := Option.some.inj ho
      obtain ⟨_, h23, rfl⟩ := given_fed hg 23 (by decide +kernel)
      clear hg
      exact st_yield ho (wanted_none rfl) (.slice (some ⟨g, 4, none⟩) 60 60) w6 (by simp [execOp, Act.eval, h23, go_sem]) ⟨_, rfl, hI.keep 3 (by decide), fun _ _ h => h, by rintro t' ⟨⟩; rfl⟩
    | 4, ho =>
      obtain rfl := Option.some.inj ho
      obtain ⟨_, h24, rfl⟩ := given_fed hg 24 (by decide +kernel)
      clear hg
      have hq : done 6 = false := by cases h : done 6 with | false => rfl | true => have := hI.1 h; rw [hnot] at this; cases this
      have hc := hI.2
      rw [hq] at hc
      exact st_enter (w1 := w6) ho (wanted_none rfl) 91 #[.slice (some ⟨g, 4, none⟩) 60 60] (by simp [execOp, Act.eval, h24, resolve, go_sem]) ((sum_c _ (l3.drop 4) _ hc.tab (hc.tail hl3)).mono (by rintro e w7 ⟨rfl, rfl⟩; rw [HS.out]; exact ⟨_, rfl, _, rfl, hI.keep 4 (by decide), fun _ _ h => h, by rintro t' ⟨⟩; rfl⟩))
    | 5, ho =>
      obtain rfl := Option.some.inj ho
      obtain ⟨_, h25, rfl⟩ := given_fed hg 25 (by decide +kernel)
      clear hg
      exact st_yield ho (wanted_none rfl) (.int .u64 (s : Int)) w6 (by simp [execOp, Act.eval, h25, go_sem, hsm]) ⟨_, rfl, hI.keep 5 (by decide), fun _ _ h => h, by rintro t' ⟨⟩; rfl⟩
    | 6, ho =>
      obtain rfl := Option.some.inj ho
      obtain ⟨_, h22, rfl⟩ := given_fed hg 22 (by decide +kernel)
      obtain ⟨_, h26, rfl⟩ := given_fed hg 26 (by decide +kernel)
      clear hg
      have hc := hI.2
      rw [hnot] at hc
      exact st_enter (w1 := w6) ho (wanted_none rfl) 99 #[.slice (some ⟨g, 0, none⟩) 4 64, .int .u64 (s : Int)] (by simp [execOp, Act.eval, h22, h26, resolve, go_sem]) ((sput_c s _ g g 0 4 64 64 64 l3 hc.own (by omega) (by omega) hBg).mono (by rintro e w7 ⟨rfl, ho7, hb7⟩; exact ⟨_, rfl, _, rfl, ⟨fun _ => by rw [doneToo_other (by decide)]; exact hr 4 (by decide +kernel), by rw [doneToo_self]; exact ⟨hc.below.trans hb7, hc.tab.below2 hb7 hTB, ho7⟩⟩, fun t u h => VE_any _ _ _ _ _ _ h, by rintro t' ⟨⟩; rfl⟩))
    | n + 7, ho => simp at ho
  · intro f w7 done hall hI hv
    have h6 := hall 6 (by decide)
    obtain ⟨-, hI2⟩ := hI
    rw [h6, if_pos rfl, HE.out] at hI2
    clear hv hall
    unfold putAll
    simp only [List.foldl]
    go_simp
    go_wp2_with fail
    go_ret
    exact ⟨_, rfl, hI2.own, hI2.below⟩

end Go.Proofs.YtnalokjnbccjnaaGreatDoor

namespace Go.Proofs.YtnalokjnbccjnaaGreatDoor
open Go.RowKit

theorem text_eql (a b : List UInt8) : ((str a).toList == (str b).toList) = decide (a = b) := by
  have e : ∀ l : List UInt8, (str l).toList = l := fun l => by rw [ByteArray.toList_eq]; simp [str]
  rw [e, e]
  by_cases h : a = b <;> simp [h]
set_option maxRecDepth 100000 in
theorem bequal_c (v u : Value) (l m : List UInt8) (w : World) (hv : RB w v l) (hu : RB w u m) : Calls Tryz.prog 98 #[v, u] w fun e w' => e = .returned (.bool (decide (l = m))) ∧ w = w' := by
  have HE := Go.Lib.hid (text_eql l m)
  have HV := Go.Lib.hid hv
  have HU := Go.Lib.hid hu
  clear hv hu
  go_enter Tryz.func98, Tryz.ntmps98
  go_wp2_with (first
    | (with_reducible show wpList _ _ _ (⟨some 6, _, _, _, _, _⟩ :: _) _ _; go_must (refine wpList_string_RB rfl (.tmp 5) 45 9 rfl 5 Tryz.underlying45 Tryz.underlying5 Tryz.underlying9 v l rfl HV.out ?_))
    | (with_reducible show wpList _ _ _ (⟨some 8, _, _, _, _, _⟩ :: _) _ _; go_must (refine wpList_string_RB rfl (.tmp 7) 45 9 rfl 5 Tryz.underlying45 Tryz.underlying5 Tryz.underlying9 u m rfl HU.out ?_))
    | fail)
  go_ret
  exact ⟨by rw [← HE.out]; rfl, rfl⟩

/-- v, a []byte that reads as l; its block, if it has bytes, is one of bytes. -/
def TX (w : World) (v : Value) (l : List UInt8) : Prop :=
  RB w v l ∧ (l ≠ [] → ∃ b o n cap cur fr, v = .slice (some ⟨b, o, none⟩) n cap ∧ w.heap[b]? = some (.cells cur 5 fr))
theorem TX.nil (w : World) : TX w (.slice none 0 0) [] := ⟨RB.nil w, fun h => absurd rfl h⟩
theorem Own.tx {w : World} {B : Nat} {v : Value} {l : List UInt8} (h : Own 5 w B v l) : TX w v l := by
  refine ⟨h.rb, fun hne => ?_⟩
  rcases h.2 with ⟨-, h0⟩ | ⟨g, cap, cur, rfl, -, hg, -⟩
  · exact absurd (List.eq_nil_of_length_eq_zero h0) hne
  · exact ⟨g, 0, _, cap, cur, _, rfl, hg⟩
theorem TX.below {w w' : World} {v : Value} {l : List UInt8} (h : TX w v l) (hb : Below w.heap.size w w') : TX w' v l := by
  refine ⟨h.1.below hb, fun hne => ?_⟩
  obtain ⟨b, o, n, cap, cur, fr, rfl, hg⟩ := h.2 hne
  exact ⟨b, o, n, cap, cur, fr, rfl, (hb.block b (Array.getElem?_eq_some_iff.1 hg).1).trans hg⟩
/-- A piece of a row of the call's own. -/
theorem Own.tx_cut {w : World} {B g cap : Nat} {l : List UInt8} (h : Own 5 w B (.slice (some ⟨g, 0, none⟩) l.length cap) l) (i j : Nat) (h0 : 0 < i) (hij : i ≤ j) (hj : j ≤ l.length) (hc : i < cap) : TX w (.slice (some ⟨g, i, none⟩) (j - i) (cap - i)) ((l.take j).drop i) := by
  have h1 := h.rb.cut i j hij hj
  have e : sliced (some ⟨g, 0, none⟩) i j cap 1 = .slice (some ⟨g, i, none⟩) (j - i) (cap - i) := by
    unfold sliced
    rw [if_neg (by omega)]
    simp [Addr.add, show i ≠ 0 from by omega]
  rw [e] at h1
  refine ⟨h1, fun _ => ?_⟩
  rcases h.2 with ⟨hn, -⟩ | ⟨g', cap', cur, hv, -, hg, -⟩
  · cases hn
  · simp only [Value.slice.injEq, Option.some.injEq, Addr.mk.injEq] at hv
    obtain ⟨⟨rfl, -, -⟩, -, -⟩ := hv
    exact ⟨g, i, _, _, cur, _, rfl, hg⟩

set_option maxHeartbeats 1000000 in
set_option maxRecDepth 100000 in
theorem sdecode_c (w : World) (B : Nat) (v : Value) (l : List UInt8) (h : Own 5 w B v l) (hl : l.length = 64) (hT : Tab w) :
    Calls Tryz.prog 74 #[v] w fun e w' => ∃ u, e = .returned (.tuple #[u, .int .i64 ((decS l).2 : Int)]) ∧ TX w' u (decS l).1 ∧ Below w.heap.size w w' := by
  obtain ⟨g, cap, rfl, hB, hg, hcl, hcm, -⟩ := h.form (by omega)
  rw [hl] at hcl
  have hrb := h.rb
  have c12 := h.cell 12 (by omega)
  obtain ⟨c, hc⟩ : ∃ c, c = (l.getD 12 0).toNat := ⟨_, rfl⟩
  have e12 : l.getD 12 0 = l[12] := by rw [List.getD_eq_getElem?_getD, List.getElem?_eq_getElem (by omega)]; rfl
  rw [← e12, ← hc] at c12
  have hc256 : c < 256 := by rw [hc]; exact UInt8.toNat_lt _
  have HC := Go.Lib.hid hc
  have H := Go.Lib.hid h
  have HL := Go.Lib.hid hl
  have HT := Go.Lib.hid hT
  have HB := Go.Lib.hid hB
  have hcapm : (cap : Int) ≤ 9223372036854775807 := by unfold maxLen at hcm; omega
  have hc12 : (64 : Int) ≤ (cap : Int) := by omega
  have hd : decS l = if c ≤ 40 ∧ getN ((l.take 12).drop 4) ≤ 1099511627776 ∧ l = encS ((l.take (13 + c)).drop 13) (getN ((l.take 12).drop 4)) then ((l.take (13 + c)).drop 13, getN ((l.take 12).drop 4)) else ([], 0) := by
    rw [hc]
    unfold decS
    rfl
  have HD := Go.Lib.hid hd
  clear hd hT hB hc h e12 hrb hcm
  rw [hl]
  by_cases h40 : c ≤ 40
  · have hx := H.out.tx_cut 13 (13 + c) (by omega) (by omega) (by omega) (by omega)
    rw [show 13 + c - 13 = c from by omega] at hx
    have hn := (H.out.tx_cut 4 12 (by omega) (by omega) (by omega) (by omega)).1
    have hN := getN_lt ((l.take 12).drop 4)
    have hNl : ((l.take 12).drop 4).length = 8 := by simp only [List.length_drop, List.length_take]; omega
    have hxl : ((l.take (13 + c)).drop 13).length = c := by simp only [List.length_drop, List.length_take]; omega
    have C1 := Go.Lib.hid (sget_c _ _ w hn (by omega))
    rw [hNl] at hN
    generalize getN ((l.take 12).drop 4) = N at C1 HD hN
    generalize (l.take (13 + c)).drop 13 = X at HD hx hxl
    have hN64 : N < 18446744073709551616 := hN
    have HX := Go.Lib.hid hx
    have HXl := Go.Lib.hid hxl
    have h40I : (c : Int) ≤ 40 := by omega
    clear hn hN hNl hx hxl hl hc256
    by_cases hNm : N ≤ 1099511627776
    · have C2 := Go.Lib.hid (sencode_c w _ X N HX.out.1 (by rw [HXl.out]; exact h40) hNm HT.out)
      have hNI : (N : Int) ≤ 1099511627776 := by omega
      clear hN64
      go_enter Tryz.func74, Tryz.ntmps74
      go_wp2_with fail
      refine C1.out.mono ?_
      rintro e w1 ⟨rfl, rfl⟩
      go_wp2_with fail
      refine C2.out.mono ?_
      rintro e w1 ⟨u, rfl, ho1, hb1⟩
      have C3 := Go.Lib.hid (bequal_c _ u l _ w1 (H.out.rb.below hb1) ho1.rb)
      have HX1 := Go.Lib.hid (HX.out.below hb1)
      have HB1 := Go.Lib.hid hb1
      clear ho1 hb1 C1 C2 HX
      rw [HL.out] at C3
      go_wp2_with fail
      refine C3.out.mono ?_
      rintro e w1' ⟨rfl, rfl⟩
      have hd := HD.out
      by_cases heq : l = encS X N
      · have hdec : decide (l = encS X N) = true := decide_eq_true heq
        rw [if_pos ⟨h40, hNm, heq⟩] at hd
        rw [hdec]
        have HDD := Go.Lib.hid hd
        clear HD hd hdec heq
        go_wp2_with fail
        go_ret2
        exact ⟨_, by rw [HDD.out]; rfl, by rw [HDD.out]; exact HX1.out, HB1.out⟩
      · have hdec : decide (l = encS X N) = false := decide_eq_false heq
        rw [if_neg (fun h => heq h.2.2)] at hd
        rw [hdec]
        have HDD := Go.Lib.hid hd
        clear HD hd hdec heq
        go_wp2_with fail
        go_ret2
        exact ⟨_, by rw [HDD.out]; rfl, by rw [HDD.out]; exact TX.nil _, HB1.out⟩
    · have hd := HD.out
      rw [if_neg (fun h => hNm h.2.1)] at hd
      rw [hd]
      clear HD hd
      have hNI : (1099511627776 : Int) < (N : Int) := by omega
      go_enter Tryz.func74, Tryz.ntmps74
      go_wp2_with fail
      refine C1.out.mono ?_
      rintro e w1 ⟨rfl, rfl⟩
      go_wp2_with fail
      go_ret2
      exact ⟨_, rfl, TX.nil _, Below.refl _ _⟩
  · have hd := HD.out
    rw [if_neg (fun h => h40 h.1)] at hd
    rw [hd]
    clear HD hd
    go_enter Tryz.func74, Tryz.ntmps74
    go_wp2_with fail
    go_ret2
    exact ⟨_, rfl, TX.nil _, Below.refl _ _⟩

end Go.Proofs.YtnalokjnbccjnaaGreatDoor

namespace Go.Proofs.YtnalokjnbccjnaaGreatDoor
open Go.RowKit

/-- A row of the call's own, open: its block and cells. -/
theorem OwnV.open {e : TypeId} {w : World} {B : Nat} {v : Value} {xs : List Value} (h : OwnV e w B v xs) (hne : 0 < xs.length) : ∃ g cap, v = .slice (some ⟨g, 0, none⟩) xs.length cap ∧ g < w.heap.size ∧ B ≤ g ∧ ∀ i (hi : i < xs.length), w.cell? ⟨g, i, none⟩ = some xs[i] := by
  rcases h.2 with ⟨-, h0⟩ | ⟨g, cap, cur, rfl, hB, hg, h1, h2, h3, h4⟩
  · omega
  · refine ⟨g, cap, rfl, (Array.getElem?_eq_some_iff.1 hg).1, hB, fun i hi => ?_⟩
    rw [cell_of_row w g i _ _ _ hg]
    obtain ⟨y, hy⟩ : ∃ y, y = xs[i] := ⟨_, rfl⟩
    have h5 : xs[i]? = some y := by rw [hy]; exact List.getElem?_eq_getElem hi
    rw [← hy]
    clear hy
    rw [← h4, List.getElem?_take] at h5
    split at h5
    · rw [Array.getElem?_toList] at h5
      exact h5
    · cases h5

/-- The sector i of the row at block g. -/
structure SecAt (w : World) (g i : Nat) (s : Sec) : Prop where
  now : w.rangeAt g (i * 129) (cells s.now)
  kept : w.rangeAt g (i * 129 + 64) (cells s.kept)
  loose : w.cell? ⟨g, i * 129 + 128, none⟩ = some (.bool s.loose)

/-- The row at block g: n sectors. -/
structure SR (w : World) (g n : Nat) (S : Nat → Sec) : Prop where
  row : ∃ cur : Array Value, w.heap[g]? = some (.cells cur 88) ∧ cur.size = n * 129
  sec : ∀ i, i < n → SecAt w g i (S i)
  whole : Whole S n

theorem setCells_heap_other {w : World} {b o : Nat} {vs : List Value} {k : Nat} (h : k ≠ b) : (w.setCells b o vs).heap[k]? = w.heap[k]? := by
  induction vs generalizing o w with
  | nil => rfl
  | cons v r ih =>
    rw [World.setCells, ih]
    exact Below.heap_setCell _ _ _ _ h
theorem setCells_heap_same {w : World} {b o : Nat} {vs : List Value} {cs : Array Value} {t : TypeId} {fr : Nat × Nat} (h : w.heap[b]? = some (.cells cs t fr)) : ∃ cs' : Array Value, (w.setCells b o vs).heap[b]? = some (.cells cs' t fr) ∧ cs'.size = cs.size := by
  induction vs generalizing o w cs with
  | nil => exact ⟨cs, h, rfl⟩
  | cons v r ih =>
    rw [World.setCells]
    have h1 : (w.setCell ⟨b, o, none⟩ v).heap[b]? = some (.cells (cs.setIfInBounds o v) t fr) := by simp [World.setCell, Array.getElem?_modify, h]
    obtain ⟨cs', h2, h3⟩ := ih (o := o + 1) h1
    exact ⟨cs', h2, by simpa using h3⟩
theorem setCells_size {w : World} {b o : Nat} {vs : List Value} : (w.setCells b o vs).heap.size = w.heap.size := by
  induction vs generalizing o w with
  | nil => rfl
  | cons v r ih => rw [World.setCells, ih]; simp [World.setCell]
theorem setCells_os {w : World} {b o : Nat} {vs : List Value} : (w.setCells b o vs).os = w.os ∧ (w.setCells b o vs).tape = w.tape ∧ (w.setCells b o vs).output = w.output := by
  induction vs generalizing o w with
  | nil => exact ⟨rfl, rfl, rfl⟩
  | cons v r ih => rw [World.setCells]; exact ih
theorem cell_apart {w : World} {p : Addr} {v : Value} (h : w.cell? p = some v) (_hs : p.spot = none) (b o : Nat) (vs : List Value) (hap : p.block ≠ b ∨ p.off < o ∨ o + vs.length ≤ p.off) : (w.setCells b o vs).cell? p = some v := by
  rw [World.cell?_setCells_out b vs o w p (fun hb _ => by rcases hap with h | h | h; exact absurd hb h; exact .inl h; exact .inr h)]
  exact h

/-- Of the blocks that there were all but b and r are as they were. -/
structure Two (b : Nat) (r : Option Nat) (w w' : World) : Prop where
  os : w'.os = w.os
  tape : w'.tape = w.tape
  output : w'.output = w.output
  size : w.heap.size ≤ w'.heap.size
  block : ∀ k, k < w.heap.size → k ≠ b → some k ≠ r → w'.heap[k]? = w.heap[k]?
theorem Two.refl (b : Nat) (r : Option Nat) (w : World) : Two b r w w := ⟨rfl, rfl, rfl, Nat.le_refl _, fun _ _ _ _ => rfl⟩
theorem Two.trans {b : Nat} {r : Option Nat} {w w1 w2 : World} (h : Two b r w w1) (k : Two b r w1 w2) : Two b r w w2 :=
  ⟨k.os.trans h.os, k.tape.trans h.tape, k.output.trans h.output, Nat.le_trans h.size k.size, fun i hi hb hn => (k.block i (Nat.lt_of_lt_of_le hi h.size) hb hn).trans (h.block i hi hb hn)⟩
theorem Two.of_below {b : Nat} {r : Option Nat} {w w' : World} (h : Below w.heap.size w w') : Two b r w w' := ⟨h.os, h.tape, h.output, h.size, fun k hk _ _ => h.block k hk⟩
theorem Two.drew {b : Nat} {r : Option Nat} {w w' : World} (h : Two b r w w') : Two b r w w'.drew := ⟨h.os, h.tape, h.output, h.size, h.block⟩
theorem Two.below {b : Nat} {r : Option Nat} {w w' : World} {B : Nat} (h : Two b r w w') (hb : B ≤ b) (hr : ∀ k, r = some k → B ≤ k) (hB : B ≤ w.heap.size) : Below B w w' :=
  ⟨h.os, h.tape, h.output, h.size, fun k hk => h.block k (by omega) (by omega) (fun e => by have := hr k e.symm; omega)⟩
theorem Two.set {b : Nat} {r : Option Nat} {w w' : World} (h : Two b r w w') {p : Addr} (hp : p.block = b ∨ some p.block = r) (u : Value) : Two b r w (w'.setCell p u) :=
  ⟨h.os, h.tape, h.output, by simpa [World.setCell] using h.size, fun k hk hb hr => (Below.heap_setCell _ _ _ _ (by rintro rfl; rcases hp with hp | hp <;> first | exact hb hp | exact hr hp)).trans (h.block k hk hb hr)⟩
theorem Two.setD {b o : Nat} {r : Option Nat} {w w' : World} (h : Two b r w w') (u : Value) : Two b r w (w'.setCell ⟨b, o, none⟩ u) := h.set (.inl rfl) u
theorem Two.setR {b r o : Nat} {w w' : World} (h : Two b (some r) w w') (u : Value) : Two b (some r) w (w'.setCell ⟨r, o, none⟩ u) := h.set (.inr rfl) u
theorem Two.cells {b : Nat} {r : Option Nat} {w w' : World} (h : Two b r w w') {k o : Nat} {vs : List Value} (hp : k = b ∨ some k = r) : Two b r w (w'.setCells k o vs) :=
  ⟨setCells_os.1.trans h.os, setCells_os.2.1.trans h.tape, setCells_os.2.2.trans h.output, by rw [setCells_size]; exact h.size, fun j hj hb hr => (setCells_heap_other (by rintro rfl; rcases hp with hp | hp <;> first | exact hb hp | exact hr hp)).trans (h.block j hj hb hr)⟩

section
variable {w w' : World} {g n : Nat} {S : Nat → Sec}
theorem SR.lt (h : SR w g n S) : g < w.heap.size := by
  obtain ⟨cur, h1, -⟩ := h.row
  exact (Array.getElem?_eq_some_iff.1 h1).1
theorem SR.there (h : SR w g n S) (o k : Nat) (hk : o + k ≤ n * 129) : w.there g o k := by
  obtain ⟨cur, h1, h2⟩ := h.row
  intro j hj
  refine ⟨?_, frozen_of_row w g (o + j) cur _ h1⟩
  rw [cell_of_row w g (o + j) cur _ (0, 0) h1]
  simp [show o + j < cur.size from by omega]
theorem SR.frozen (h : SR w g n S) (o : Nat) : w.frozen? ⟨g, o, none⟩ = false := by
  obtain ⟨cur, h1, -⟩ := h.row
  exact frozen_of_row w g o cur _ h1
theorem SR.same (h : SR w g n S) (hb : w'.heap[g]? = w.heap[g]?) : SR w' g n S := by
  obtain ⟨cur, h1, h2⟩ := h.row
  have hc : ∀ o, w'.cell? ⟨g, o, none⟩ = w.cell? ⟨g, o, none⟩ := fun o => World.cell?_of_block (w := w) hb
  exact ⟨⟨cur, hb.trans h1, h2⟩, fun i hi => ⟨fun j v hv => (hc _).trans ((h.sec i hi).now j v hv), fun j v hv => (hc _).trans ((h.sec i hi).kept j v hv), (hc _).trans (h.sec i hi).loose⟩, h.whole⟩
theorem SR.congr {S' : Nat → Sec} (h : SR w g n S) (e : ∀ j, j < n → S' j = S j) : SR w g n S' :=
  ⟨h.row, fun i hi => by rw [e i hi]; exact h.sec i hi, fun i hi => by rw [e i hi]; exact h.whole i hi⟩
theorem sec_apart {i k o : Nat} {s : Sec} {vs : List Value} (h : SecAt w g k s) (hn : s.now.length = 64) (hk : s.kept.length = 64) (hik : k ≠ i) (h1 : i * 129 ≤ o) (h2 : o + vs.length ≤ i * 129 + 129) : SecAt (w.setCells g o vs) g k s := by
  have hc1 : (cells s.now).length = 64 := by rw [cells_length, hn]
  have hc2 : (cells s.kept).length = 64 := by rw [cells_length, hk]
  rcases Nat.lt_or_gt_of_ne hik with hlt | hlt
  · have : k * 129 + 129 ≤ i * 129 := by omega
    exact ⟨World.rangeAt_setCells_apart h.now _ _ _ (.inr (.inl (by omega))), World.rangeAt_setCells_apart h.kept _ _ _ (.inr (.inl (by omega))), cell_apart h.loose rfl _ _ _ (.inr (.inl (by show k * 129 + 128 < o; omega)))⟩
  · have : i * 129 + 129 ≤ k * 129 := by omega
    exact ⟨World.rangeAt_setCells_apart h.now _ _ _ (.inr (.inr (by omega))), World.rangeAt_setCells_apart h.kept _ _ _ (.inr (.inr (by omega))), cell_apart h.loose rfl _ _ _ (.inr (.inr (by show o + vs.length ≤ k * 129 + 128; omega)))⟩
/-- What lasts of a sector is stored. -/
theorem SR.putKept (h : SR w g n S) (i : Nat) (hi : i < n) (l : List UInt8) (hl : l.length = 64) : SR (w.setCells g (i * 129 + 64) (cells l)) g n (upS S i ⟨(S i).now, l, (S i).loose⟩) := by
  obtain ⟨cur, h1, h2⟩ := h.row
  obtain ⟨cur', h3, h4⟩ := setCells_heap_same (o := i * 129 + 64) (vs := cells l) h1
  have hcl : (cells l).length = 64 := by rw [cells_length, hl]
  obtain ⟨w1, w2⟩ := h.whole i hi
  refine ⟨⟨cur', h3, h4.trans h2⟩, fun k hk => ?_, h.whole.up i _ w1 hl⟩
  unfold upS
  by_cases hik : k = i
  · subst hik
    rw [if_pos rfl]
    have hs := h.sec k hk
    exact ⟨World.rangeAt_setCells_apart hs.now _ _ _ (.inr (.inl (by rw [cells_length, w1]; omega))), World.rangeAt_setCells_same _ _ _ _ (h.there _ _ (by rw [hcl]; omega)), cell_apart hs.loose rfl _ _ _ (.inr (.inr (by rw [hcl]; show k * 129 + 64 + 64 ≤ k * 129 + 128; omega)))⟩
  · rw [if_neg hik]
    exact sec_apart (h.sec k hk) (h.whole k hk).1 (h.whole k hk).2 hik (by omega) (by omega)
/-- What a sector holds is stored. -/
theorem SR.putNow (h : SR w g n S) (i : Nat) (hi : i < n) (l : List UInt8) (hl : l.length ≤ 64) : SR (w.setCells g (i * 129) (cells l)) g n (upS S i ⟨over (S i).now l, (S i).kept, (S i).loose⟩) := by
  obtain ⟨cur, h1, h2⟩ := h.row
  obtain ⟨cur', h3, h4⟩ := setCells_heap_same (o := i * 129) (vs := cells l) h1
  have hcl : (cells l).length = l.length := cells_length l
  obtain ⟨w1, w2⟩ := h.whole i hi
  refine ⟨⟨cur', h3, h4.trans h2⟩, fun k hk => ?_, h.whole.up i _ (by show (over _ _).length = 64; rw [over_length (by omega), w1]) w2⟩
  unfold upS
  by_cases hik : k = i
  · subst hik
    rw [if_pos rfl]
    have hs := h.sec k hk
    refine ⟨fun j v hv => ?_, World.rangeAt_setCells_apart hs.kept _ _ _ (.inr (.inr (by rw [hcl]; omega))), cell_apart hs.loose rfl _ _ _ (.inr (.inr (by rw [hcl]; show k * 129 + l.length ≤ k * 129 + 128; omega)))⟩
    have hs1 := World.rangeAt_setCells_same w g (k * 129) (cells l) (h.there _ _ (by rw [hcl]; omega))
    simp only [over, cells_append] at hv
    rcases Nat.lt_or_ge j l.length with hj | hj
    · rw [List.getElem?_append_left (by rw [hcl]; exact hj)] at hv
      exact hs1 j v hv
    · rw [List.getElem?_append_right (by rw [hcl]; exact hj), hcl] at hv
      have hv2 : (cells (S k).now)[j]? = some v := by
        unfold cells at hv ⊢
        rw [List.map_drop, List.getElem?_drop] at hv
        rw [← hv]
        congr 1
        omega
      exact cell_apart (hs.now j v hv2) rfl _ _ _ (.inr (.inr (by rw [hcl]; show k * 129 + l.length ≤ k * 129 + j; omega)))
  · rw [if_neg hik]
    exact sec_apart (h.sec k hk) (h.whole k hk).1 (h.whole k hk).2 hik (by omega) (by omega)
/-- Whether it is loose is stored. -/
theorem SR.putLoose (h : SR w g n S) (i : Nat) (hi : i < n) (b : Bool) : SR (w.setCell ⟨g, i * 129 + 128, none⟩ (.bool b)) g n (upS S i ⟨(S i).now, (S i).kept, b⟩) := by
  have e : w.setCell ⟨g, i * 129 + 128, none⟩ (.bool b) = w.setCells g (i * 129 + 128) [.bool b] := rfl
  rw [e]
  obtain ⟨cur, h1, h2⟩ := h.row
  obtain ⟨cur', h3, h4⟩ := setCells_heap_same (o := i * 129 + 128) (vs := [.bool b]) h1
  obtain ⟨w1, w2⟩ := h.whole i hi
  refine ⟨⟨cur', h3, h4.trans h2⟩, fun k hk => ?_, h.whole.up i _ w1 w2⟩
  unfold upS
  by_cases hik : k = i
  · subst hik
    rw [if_pos rfl]
    have hs := h.sec k hk
    have ht := h.there (k * 129 + 128) 1 (by omega)
    refine ⟨World.rangeAt_setCells_apart hs.now _ _ _ (.inr (.inl (by rw [cells_length, w1]; omega))), World.rangeAt_setCells_apart hs.kept _ _ _ (.inr (.inl (by rw [cells_length, w2]; omega))), ?_⟩
    exact World.rangeAt_setCells_same w g (k * 129 + 128) [.bool b] ht 0 (.bool b) rfl
  · rw [if_neg hik]
    exact sec_apart (h.sec k hk) (h.whole k hk).1 (h.whole k hk).2 hik (by omega) (by simp)
end

theorem Two.cellsR {b r o : Nat} {w w' : World} {vs : List Value} (h : Two b (some r) w w') : Two b (some r) w (w'.setCells r o vs) := h.cells (.inr rfl)
/-- d, a *dev.Dev: n sectors in the row at block g; all of it lies from block B on. -/
structure DV (w : World) (B d g n : Nat) (S : Nat → Sec) (L : Life) : Prop where
  blk : w.heap[d]? = some (.cells #[.slice (some ⟨g, 0, none⟩) n n, .int .i64 L.calls, .bool L.fused, .int .i64 L.left, .bool L.dead] 64)
  row : SR w g n S
  ok : L.Ok
  lowd : B ≤ d
  lowg : B ≤ g
  n0 : 0 < n
  n1 : n ≤ 2048
section
variable {w w' : World} {B d g n : Nat} {S : Nat → Sec} {L : Life}
theorem DV.lt (h : DV w B d g n S L) : d < w.heap.size := (Array.getElem?_eq_some_iff.1 h.blk).1
theorem DV.ltg (h : DV w B d g n S L) : g < w.heap.size := h.row.lt
theorem DV.ne (h : DV w B d g n S L) : d ≠ g := by
  intro e
  obtain ⟨cur, h1, -⟩ := h.row.row
  have h2 := h.blk
  rw [e, h1] at h2
  simp only [Option.some.injEq, Obj.cells.injEq] at h2
  exact absurd h2.2.1 (by decide)
theorem DV.c0 (h : DV w B d g n S L) : w.cell? ⟨d, 0, none⟩ = some (.slice (some ⟨g, 0, none⟩) n n) := by rw [cell_of_row w d 0 _ _ _ h.blk]; rfl
theorem DV.c1 (h : DV w B d g n S L) : w.cell? ⟨d, 1, none⟩ = some (.int .i64 L.calls) := by rw [cell_of_row w d 1 _ _ _ h.blk]; rfl
theorem DV.c2 (h : DV w B d g n S L) : w.cell? ⟨d, 2, none⟩ = some (.bool L.fused) := by rw [cell_of_row w d 2 _ _ _ h.blk]; rfl
theorem DV.c3 (h : DV w B d g n S L) : w.cell? ⟨d, 3, none⟩ = some (.int .i64 L.left) := by rw [cell_of_row w d 3 _ _ _ h.blk]; rfl
theorem DV.c4 (h : DV w B d g n S L) : w.cell? ⟨d, 4, none⟩ = some (.bool L.dead) := by rw [cell_of_row w d 4 _ _ _ h.blk]; rfl
theorem DV.f (h : DV w B d g n S L) (o : Nat) : w.frozen? ⟨d, o, none⟩ = false := frozen_of_row w d o _ _ h.blk
theorem DV.same (h : DV w B d g n S L) (h1 : w'.heap[d]? = w.heap[d]?) (h2 : w'.heap[g]? = w.heap[g]?) : DV w' B d g n S L := ⟨h1.trans h.blk, h.row.same h2, h.ok, h.lowd, h.lowg, h.n0, h.n1⟩
theorem DV.below (h : DV w B d g n S L) (hb : Below w.heap.size w w') : DV w' B d g n S L := h.same (hb.block d h.lt) (hb.block g h.ltg)
theorem DV.drew (h : DV w B d g n S L) : DV w.drew B d g n S L := h.same rfl rfl
theorem DV.mono {B' : Nat} (h : DV w B d g n S L) (hB : B' ≤ B) : DV w B' d g n S L := ⟨h.blk, h.row, h.ok, Nat.le_trans hB h.lowd, Nat.le_trans hB h.lowg, h.n0, h.n1⟩
/-- It stays while another device is written to. -/
theorem DV.two {d' g' : Nat} (h : DV w B d g n S L) (hk : Two d' (some g') w w') (h1 : d ≠ d') (h2 : d ≠ g') (h3 : g ≠ d') (h4 : g ≠ g') : DV w' B d g n S L :=
  h.same (hk.block d h.lt h1 (by simpa using h2)) (hk.block g h.ltg h3 (by simpa using h4))
theorem DV.congr {S' : Nat → Sec} (h : DV w B d g n S L) (e : ∀ j, j < n → S' j = S j) : DV w B d g n S' L := ⟨h.blk, h.row.congr e, h.ok, h.lowd, h.lowg, h.n0, h.n1⟩
/-- A cell of the struct is stored. -/
theorem DV.life (h : DV w B d g n S L) {L' : Life} (hb : w'.heap[d]? = some (.cells #[.slice (some ⟨g, 0, none⟩) n n, .int .i64 L'.calls, .bool L'.fused, .int .i64 L'.left, .bool L'.dead] 64)) (hg : w'.heap[g]? = w.heap[g]?) (ho : L'.Ok) : DV w' B d g n S L' :=
  ⟨hb, h.row.same hg, ho, h.lowd, h.lowg, h.n0, h.n1⟩
theorem DV.rowTo (h : DV w B d g n S L) {S' : Nat → Sec} (hb : w'.heap[d]? = w.heap[d]?) (hr : SR w' g n S') : DV w' B d g n S' L := ⟨hb.trans h.blk, hr, h.ok, h.lowd, h.lowg, h.n0, h.n1⟩
theorem Two.belowDV (h : DV w B d g n S L) (hk : Two d (some g) w w') (hB : B ≤ w.heap.size) : Below B w w' := hk.below h.lowd (fun k hk => by cases hk; exact h.lowg) hB
end

theorem heap_set {w : World} {b : Nat} {cs : Array Value} {t : TypeId} {fr : Nat × Nat} (h : w.heap[b]? = some (.cells cs t fr)) (o : Nat) (u : Value) : (w.setCell ⟨b, o, none⟩ u).heap[b]? = some (.cells (cs.setIfInBounds o u) t fr) := by
  simp [World.setCell, Array.getElem?_modify, h]

end Go.Proofs.YtnalokjnbccjnaaGreatDoor

namespace Go.Proofs.YtnalokjnbccjnaaGreatDoor
open Go.RowKit

theorem beq_dec (a b : Int) : (a == b) = decide (a = b) := by by_cases h : a = b <;> simp [h]
section
variable (w : World)
set_option maxRecDepth 100000
theorem dlen_nil : Calls Tryz.prog 30 #[.pointer none] w fun e w' => e = .returned (.int .i64 0) ∧ w = w' := by
  go_enter Tryz.func30, Tryz.ntmps30
  go_wp2_with fail
  go_ret
  exact ⟨rfl, rfl⟩
theorem ddead_nil : Calls Tryz.prog 40 #[.pointer none] w fun e w' => e = .returned (.bool true) ∧ w = w' := by
  go_enter Tryz.func40, Tryz.ntmps40
  go_wp2_with fail
  go_ret
  exact ⟨rfl, rfl⟩
theorem dfuse_nil (n : Int) : Calls Tryz.prog 18 #[.pointer none, .int .i64 n] w fun e w' => e = .returned (.tuple #[]) ∧ w = w' := by
  have C := Go.Lib.hid (ddead_nil w)
  go_enter Tryz.func18, Tryz.ntmps18
  go_wp2_with fail
  refine C.out.mono ?_
  rintro e w1 ⟨rfl, rfl⟩
  go_wp2_with fail
  refine bodyPost_ret (results_none rfl _ _ _) rfl ?_
  exact ⟨rfl, rfl⟩

variable {B d g n : Nat} {S : Nat → Sec} {L : Life}
variable {w}
theorem dlen_c (h : DV w B d g n S L) : Calls Tryz.prog 30 #[.pointer (some ⟨d, 0, none⟩)] w fun e w' => e = .returned (.int .i64 (n : Int)) ∧ w = w' := by
  have c0 := h.c0
  clear h
  go_enter Tryz.func30, Tryz.ntmps30
  go_wp2_with fail
  go_ret
  exact ⟨rfl, rfl⟩
theorem ddead_c (h : DV w B d g n S L) : Calls Tryz.prog 40 #[.pointer (some ⟨d, 0, none⟩)] w fun e w' => e = .returned (.bool L.dead) ∧ w = w' := by
  have c4 := h.c4
  clear h
  go_enter Tryz.func40, Tryz.ntmps40
  go_wp2_with fail
  go_ret
  exact ⟨rfl, rfl⟩
theorem dhas_c (h : DV w B d g n S L) (i : Int) : Calls Tryz.prog 96 #[.pointer (some ⟨d, 0, none⟩), .int .i64 i] w fun e w' => e = .returned (.bool (decide (0 ≤ i) && decide (i < (n : Int)))) ∧ w = w' := by
  have C := Go.Lib.hid (dlen_c h)
  clear h
  by_cases h0 : 0 ≤ i
  · go_enter Tryz.func96, Tryz.ntmps96
    go_wp2_with fail
    refine C.out.mono ?_
    rintro e w1 ⟨rfl, rfl⟩
    go_wp2_with fail
    go_ret
    exact ⟨by simp [h0], rfl⟩
  · go_enter Tryz.func96, Tryz.ntmps96
    go_wp2_with fail
    go_ret
    exact ⟨by simp; omega, rfl⟩
theorem dfuse_c (h : DV w B d g n S L) (k : Int) (hk0 : -9223372036854775808 ≤ k) (hk1 : k ≤ 9223372036854775807) : Calls Tryz.prog 18 #[.pointer (some ⟨d, 0, none⟩), .int .i64 k] w fun e w' => e = .returned (.tuple #[]) ∧ DV w' B d g n S (L.fuseTo k) ∧ Two d (some g) w w' := by
  have C := Go.Lib.hid (ddead_c h)
  have hok := h.ok.fuseTo k hk0 hk1
  by_cases hd : L.dead = true
  · have e : L.fuseTo k = L := by unfold Life.fuseTo; rw [if_pos hd]
    rw [e]
    have H := Go.Lib.hid h; clear h
    rw [hd] at C
    clear hk0 hk1
    go_enter Tryz.func18, Tryz.ntmps18
    go_wp2_with fail
    refine C.out.mono ?_
    rintro e w1 ⟨rfl, rfl⟩
    go_wp2_with fail
    refine bodyPost_ret (results_none rfl _ _ _) rfl ?_
    exact ⟨rfl, H.out, Two.refl _ _ _⟩
  · have hd' : L.dead = false := by simpa using hd
    have e : L.fuseTo k = ⟨L.calls, decide (0 ≤ k), k, decide (k = 0)⟩ := by unfold Life.fuseTo; rw [if_neg hd]
    rw [e] at hok ⊢
    have c2 := h.c2
    have c3 := h.c3
    have c4 := h.c4
    have f2 := h.f 2
    have f3 := h.f 3
    have f4 := h.f 4
    have hne := Go.Lib.hid h.ne
    have H := Go.Lib.hid h; clear h
    rw [hd'] at C
    clear hk0 hk1
    have HO := Go.Lib.hid hok; clear hok
    go_enter Tryz.func18, Tryz.ntmps18
    go_wp2_with fail
    refine C.out.mono ?_
    rintro e w1 ⟨rfl, rfl⟩
    go_wp2_with fail
    go_end0
    refine ⟨rfl, H.out.life ?_ ?_ HO.out, (((Two.refl _ _ _).setD _).setD _).setD _⟩
    · rw [heap_set (heap_set (heap_set H.out.blk _ _) _ _) _ _]
      simp [beq_dec]
    · rw [Below.heap_setCell _ _ _ _ (fun e => hne.out e.symm), Below.heap_setCell _ _ _ _ (fun e => hne.out e.symm), Below.heap_setCell _ _ _ _ (fun e => hne.out e.symm)]
theorem dcount_c (h : DV w B d g n S L) (hd : L.dead = false) (hc : L.calls < 1000000) : Calls Tryz.prog 90 #[.pointer (some ⟨d, 0, none⟩)] w fun e w' => e = .returned (.tuple #[]) ∧ DV w' B d g n S L.tick ∧ Two d (some g) w w' := by
  have hok := Go.Lib.hid (h.ok.tick hd hc)
  have c1 := h.c1
  have c2 := h.c2
  have c3 := h.c3
  have c4 := h.c4
  have f1 := h.f 1
  have f3 := h.f 3
  have f4 := h.f 4
  have hne := Go.Lib.hid h.ne
  have k0 := h.ok.c0
  have k1 := h.ok.fuse
  have k2 := h.ok.l1
  have H := Go.Lib.hid h; clear h
  have HD := Go.Lib.hid hd; clear hd
  obtain ⟨c, f, l, z⟩ := L
  simp only at *
  cases f with
  | false =>
    clear k1 k2
    go_enter Tryz.func90, Tryz.ntmps90
    go_wp2_with fail
    go_end0
    refine ⟨rfl, H.out.life ?_ ?_ hok.out, (Two.refl _ _ _).setD _⟩
    · rw [heap_set H.out.blk _ _]
      simp [Life.tick]
    · rw [Below.heap_setCell _ _ _ _ (fun e => hne.out e.symm)]
  | true =>
    have k1' := k1 rfl
    clear k1
    go_enter Tryz.func90, Tryz.ntmps90
    go_wp2_with fail
    go_end0
    refine ⟨rfl, H.out.life ?_ ?_ hok.out, (((Two.refl _ _ _).setD _).setD _).setD _⟩
    · rw [heap_set (heap_set (heap_set H.out.blk _ _) _ _) _ _]
      simp [Life.tick, beq_dec]
    · rw [Below.heap_setCell _ _ _ _ (fun e => hne.out e.symm), Below.heap_setCell _ _ _ _ (fun e => hne.out e.symm), Below.heap_setCell _ _ _ _ (fun e => hne.out e.symm)]
end

end Go.Proofs.YtnalokjnbccjnaaGreatDoor

namespace Go.Proofs.YtnalokjnbccjnaaGreatDoor
open Go.RowKit

def secZ : Array Value := (List.replicate 128 (Value.int .u8 0) ++ [Value.bool false]).toArray
theorem infoSec : (Tryz.prog.info? 88).map (fun i => (i.zero, i.size, i.bytes)) = some (some (.agg secZ), 129, 129) := by kernel_rfl
theorem secZ_size : secZ.size = 129 := by simp [secZ]
theorem rep_at (m r : Nat) (v : Value) (l : List Value) (h : r < m) : ((List.replicate m v ++ l).toArray)[r]! = v := by
  rw [getElem!_pos _ r (by simp; omega)]
  simp only [List.getElem_toArray]
  rw [List.getElem_append_left (by rw [List.length_replicate]; exact h), List.getElem_replicate]
theorem rep_last (m : Nat) (v u : Value) : ((List.replicate m v ++ [u]).toArray)[m]! = u := by
  rw [getElem!_pos _ m (by simp)]
  simp
theorem secZ_at (r : Nat) (h : r < 128) : secZ[r]! = .int .u8 0 := rep_at 128 r _ _ h
theorem secZ_last : secZ[128]! = .bool false := rep_last 128 _ _
theorem made_at (n i r : Nat) (hi : i < n) (hr : r < 129) : (madeCells secZ (n * 129))[i * 129 + r]? = some secZ[r]! := by
  unfold madeCells
  rw [Array.getElem?_map, Array.getElem?_range, if_pos (by omega)]
  simp only [Option.map_some, secZ_size]
  rw [show (i * 129 + r) % 129 = r from by omega]
theorem cells_zero (m j : Nat) (v : Value) (h : (cells (List.replicate m (0 : UInt8)))[j]? = some v) : j < m ∧ v = .int .u8 0 := by
  unfold cells at h
  rw [List.map_replicate, List.getElem?_replicate] at h
  split at h
  · rename_i h1
    exact ⟨h1, (Option.some.inj h).symm⟩
  · cases h
theorem sr_made (w : World) (n : Nat) : SR (w.alloc (.cells (madeCells secZ (n * 129)) 88)) w.heap.size n newS := by
  have hh := heap_alloc_new w (.cells (madeCells secZ (n * 129)) 88)
  have hc : ∀ o, (w.alloc (.cells (madeCells secZ (n * 129)) 88)).cell? ⟨w.heap.size, o, none⟩ = (madeCells secZ (n * 129))[o]? := fun o => cell_of_row _ _ _ _ _ _ hh
  refine ⟨⟨_, hh, size_madeCells _ _⟩, fun i hi => ⟨fun j v hv => ?_, fun j v hv => ?_, ?_⟩, Whole.new n⟩
  · obtain ⟨h1, rfl⟩ := cells_zero 64 j v hv
    rw [hc, made_at n i j hi (by omega), secZ_at j (by omega)]
  · obtain ⟨h1, rfl⟩ := cells_zero 64 j v hv
    rw [hc, Nat.add_assoc, made_at n i (64 + j) hi (by omega), secZ_at (64 + j) (by omega)]
  · rw [hc, made_at n i 128 hi (by omega), secZ_last]
    rfl

/-- 'make([]sector, n)'. -/
theorem wpList_make_secs {ops : Array Oper} {rest : List Oper} {o : Oper} {a : Act} {w : World} {Q : Exit → Act → World → Prop} (hgd : o.guard = none) (lo co : Operand)
    (hop : o.op = Op.makeSlice 62 lo co) (kl kc : IntKind) (L C : Int) (n : Nat) (hl : a.eval lo = .int kl L) (hc : a.eval co = .int kc C) (hL : L = (n : Int)) (hC : C = (n : Int)) (hcm : n ≤ 2048)
    (h : ∀ w', Hid (SR w' w.heap.size n newS) → Hid (Below w.heap.size w w') → w'.heap.size = w.heap.size + 1 → wpList Tryz.prog ops Q rest (a.put o.dst (.slice (some ⟨w.heap.size, 0, none⟩) n n)) w') : wpList Tryz.prog ops Q (o :: rest) a w := by
  obtain ⟨i, hi, hz, hsize, hby⟩ := info_parts infoSec
  subst hL hC
  have hr := run_make (P := Tryz.prog) w 62 88 i (.agg secZ) Tryz.underlying62 hi hz kl kc n n (by omega) (by omega) (by rw [hby]; omega) (by omega)
  simp only [Int.toNat_natCast, hsize] at hr
  refine wpList_gives hgd (.slice (some ⟨w.heap.size, 0, none⟩) n n) (w.alloc (.cells (madeCells (Value.agg secZ).cells (n * 129)) 88)) (by simp [execOp, hop, hl, hc, hr, Result.andThen]) (h _ (sr_made w n) ((Below.refl _ _).alloc (Nat.le_refl _) _) (Array.size_push ..))

/-- As many sectors as a device has. -/
def lenD (n : Int) : Nat := (min (max n 1) 2048).toNat
theorem lenD_of {n : Int} (h1 : 1 ≤ n) (h2 : n ≤ 2048) : lenD n = n.toNat := by unfold lenD; omega

set_option maxRecDepth 100000 in
theorem dnew_c (n : Int) (w : World) : Calls Tryz.prog 11 #[.int .i64 n] w fun e w' => ∃ d g, e = .returned (.pointer (some ⟨d, 0, none⟩)) ∧ DV w' w.heap.size d g (lenD n) newS born ∧ Below w.heap.size w w' := by
  obtain ⟨k, hk⟩ : ∃ k, lenD n = k := ⟨_, rfl⟩
  have hkI : min (max n 1) 2048 = (k : Int) := by rw [← hk]; unfold lenD; omega
  have hk0 : 0 < k := by omega
  have hk1 : k ≤ 2048 := by omega
  rw [hk]
  clear hk
  have HK := Go.Lib.hid hkI; clear hkI
  go_enter Tryz.func11, Tryz.ntmps11
  go_wp2_with (first
    | (with_reducible show wpList _ _ _ (⟨some 6, _, _, _, _, _⟩ :: _) _ _; go_loud (refine wpList_make_secs rfl (.tmp 5) (.tmp 5) rfl .i64 .i64 _ _ k rfl rfl HK.out HK.out hk1 ?_); intro w2 hs hb hsz)
    | fail)
  go_ret
  refine ⟨_, _, rfl, ⟨by rw [← hsz]; exact heap_alloc_new _ _, ?_, born_ok, by omega, Nat.le_refl _, hk0, hk1⟩, hb.out.alloc (by omega) _⟩
  exact hs.out.same (Below.heap_alloc _ _ _ (by omega))

end Go.Proofs.YtnalokjnbccjnaaGreatDoor

namespace Go.Proofs.YtnalokjnbccjnaaGreatDoor
open Go.RowKit

theorem infoI : (Tryz.prog.info? 3).map (fun i => (i.zero, i.size, i.bytes)) = some (some (.int .i64 0), 1, 8) := by kernel_rfl

set_option maxRecDepth 100000 in
theorem dloose_nil (w : World) : Calls Tryz.prog 21 #[.pointer none] w fun e w' => e = .returned (.slice none 0 0) ∧ w = w' := by
  have C := Go.Lib.hid (dlen_nil w)
  go_enter Tryz.func21, Tryz.ntmps21
  go_wp2_with fail
  refine C.out.mono ?_
  rintro e w1 ⟨rfl, rfl⟩
  go_wp2_with fail
  go_loopw [3, 7] (fun u c wr => u = .slice none 0 0 ∧ c = .int .i64 0 ∧ wr = w) (fun _ _ _ => 0)
  case atStart => exact ⟨rfl, rfl, rfl⟩
  case round =>
    obtain ⟨rfl, rfl, rfl⟩ := hrel
    go_wp2_with fail
    go_ret
    exact ⟨rfl, rfl⟩

section
variable {w : World} {B d g n : Nat} {S : Nat → Sec} {L : Life}
set_option maxRecDepth 100000 in
theorem dloose_c (h : DV w B d g n S L) : Calls Tryz.prog 21 #[.pointer (some ⟨d, 0, none⟩)] w fun e w' => ∃ v, e = .returned v ∧ OwnV 3 w' w.heap.size v (zi .i64 (looseL (lf S) n)) ∧ Below w.heap.size w w' := by
  have C := Go.Lib.hid (dlen_c h)
  have hn1 := h.n1
  have H := Go.Lib.hid h; clear h
  go_enter Tryz.func21, Tryz.ntmps21
  go_wp2_with fail
  refine C.out.mono ?_
  rintro e w1 ⟨rfl, rfl⟩
  go_wp2_with fail
  go_loopw [3, 7] (fun u c wr => ∃ (k : Nat) (v : Value), v = u ∧ k ≤ n ∧ c = .int .i64 (k : Int) ∧ OwnV 3 wr w.heap.size v (zi .i64 (looseL (lf S) k)) ∧ Below w.heap.size w wr) (fun _ c _ => n - (intOf c).toNat)
  case atStart => exact ⟨0, _, rfl, by omega, rfl, OwnV.nil _ _ _, Below.refl _ _⟩
  case round =>
    obtain ⟨k, v, rfl, hk, rfl, hown, hbw⟩ := hrel
    by_cases hlt : k < n
    · have hdv := H.out.below hbw
      have c0 := hdv.c0
      have c1 := (hdv.row.sec k hlt).loose
      have hkI : (k : Int) < (n : Int) := by omega
      have hw : (k : Int) + 1 = ((k + 1 : Nat) : Int) := by omega
      have hle := looseL_length_le (lf S) k
      by_cases hlo : (S k).loose = true
      · rw [hlo] at c1
        have hmore := Go.Lib.hid (show zi .i64 (looseL (lf S) (k + 1)) = zi .i64 (looseL (lf S) k) ++ [.int .i64 (k : Int)] from by rw [looseL_yes (lf S) k hlo, zi_append]; rfl)
        have hown3 := hown.alloc (.cells #[.int .i64 (k : Int)] 3)
        have hrv := RV.one wr 3 (.int .i64 (k : Int))
        have hbw3 := hbw.alloc hbw.size (.cells #[.int .i64 (k : Int)] 3)
        have hone : ∀ u ∈ [Value.int .i64 (k : Int)], u.oneCell' = true := by intro u hu; obtain rfl := List.mem_singleton.1 hu; rfl
        have hln1 : ((zi .i64 (looseL (lf S) k)).length + [Value.int .i64 (k : Int)].length) * 8 ≤ 140737488355328 := by rw [zi_length]; simp only [List.length_cons, List.length_nil]; omega
        have hln2 : (zi .i64 (looseL (lf S) k)).length + [Value.int .i64 (k : Int)].length ≤ 140737488355328 := by omega
        have HW := Go.Lib.hid hw
        clear hdv hown hbw hle hlo hw
        go_wp2_with (first
          | (with_reducible show wpList _ _ _ (⟨some 21, _, _, _, _, _⟩ :: _) _ _; go_must (refine wpList_append_RV rfl (.tmp 18) (.tmp 20) 42 rfl w.heap.size 3 Tryz.underlying42 (.int .i64 0) 8 rfl infoI v (.slice (some ⟨wr.heap.size, 0, none⟩) 1 1) (zi .i64 (looseL (lf S) k)) [.int .i64 (k : Int)] rfl rfl hown3 hrv hone hln1 hln2 hbw3.size ?_); intro v4 w4 hown4 hg4; have hb4 := hbw3.grown hg4 hbw3.size hown3.row)
          | fail)
        go_roundw
        case rel => exact ⟨k + 1, _, rfl, by omega, by rw [HW.out], by rw [hmore.out]; exact hown4, hb4⟩
        case measure => simp only [intOf]; omega
      · rw [show (S k).loose = false from by simpa using hlo] at c1
        have hmore := Go.Lib.hid (looseL_no (lf S) k (show lf S k = false from by simpa [lf] using hlo))
        have HW := Go.Lib.hid hw
        clear hdv hle hlo hw
        go_wp2_with fail
        go_roundw
        case rel => exact ⟨k + 1, _, rfl, by omega, by rw [HW.out], by rw [hmore.out]; exact hown, hbw⟩
        case measure => simp only [intOf]; omega
    · obtain rfl : k = n := by omega
      go_wp2_with fail
      go_ret
      exact ⟨_, rfl, hown, hbw⟩
end

end Go.Proofs.YtnalokjnbccjnaaGreatDoor

namespace Go.Proofs.YtnalokjnbccjnaaGreatDoor
open Go.RowKit

set_option maxRecDepth 100000 in
theorem dwrite_nil (i : Int) (v : Value) (w : World) : Calls Tryz.prog 75 #[.pointer none, .int .i64 i, v] w fun e w' => e = .returned (.int .i64 7) ∧ w = w' := by
  have C := Go.Lib.hid (ddead_nil w)
  go_enter Tryz.func75, Tryz.ntmps75
  go_wp2_with fail
  refine C.out.mono ?_
  rintro e w1 ⟨rfl, rfl⟩
  go_wp2_with fail
  go_ret
  exact ⟨rfl, rfl⟩

theorem rb_range {w : World} {a : Option Addr} {len cap : Nat} {l : List UInt8} (h : RB w (.slice a len cap) l) (hl : 0 < l.length) : ∃ b o, a = some ⟨b, o, none⟩ ∧ w.rangeAt b o (cells l) := by
  obtain ⟨a', cap', hv, h1, h2, h3, h4⟩ := h
  cases hv
  obtain ⟨b, o, ha, hc⟩ := h4 (List.length_pos_iff.1 hl)
  refine ⟨b, o, ha, fun j v hj => ?_⟩
  have hjm : j < l.length := by
    rcases Nat.lt_or_ge j l.length with hlt | hge
    · exact hlt
    · rw [List.getElem?_eq_none (by simpa [cells_length] using hge)] at hj; cases hj
  rw [cells_at l j hjm] at hj
  cases hj
  exact hc j hjm

/-- 'copy(s, b)', s a window of 64 bytes in the midst of a row, b whatever reads as l. -/
theorem wpList_copy_mid {ops : Array Oper} {rest : List Oper} {o : Oper} {a : Act} {w : World} {Q : Exit → Act → World → Prop} (hgd : o.guard = none) (d s : Operand)
    (ho : o.op = .call { callee := .builtin .copy, args := #[d, s], argTypes := #[45, 45] })
    (g off : Nat) (v : Value) (l : List UInt8) (hd : a.eval d = .slice (some ⟨g, off, none⟩) 64 64) (hs : a.eval s = v) (hrb : RB w v l) (hl : l.length ≤ 64) (ht : w.there g off 64)
    (h : ∀ k, wpList Tryz.prog ops Q rest (a.put o.dst (goInt k)) (w.setCells g off (cells l))) : wpList Tryz.prog ops Q (o :: rest) a w := by
  obtain ⟨i, hi, hz, hsize, hby⟩ := info_parts info8
  have hsz : (Tryz.prog.info? 5).map (·.size) = some 1 := by rw [hi]; simp [hsize]
  have hz1 : ∀ w, (sizeOf 5).run Tryz.prog w = .ok 1 w := fun w => by simp [sizeOf, typeInfo, hi, hsize]
  have hrb0 := hrb
  obtain ⟨ad, cap, rfl, h1, h2, h3, h4⟩ := hrb
  by_cases h0 : l.length = 0
  · obtain rfl : l = [] := List.eq_nil_of_length_eq_zero h0
    refine wpList_copy_nothing hgd d s _ _ ho 5 Tryz.underlying45 hsz (some ⟨g, off, none⟩) ad 64 64 0 cap hd hs (by simp) ?_
    exact h 0
  · obtain ⟨b, o', rfl, hr⟩ := rb_range hrb0 (by omega)
    refine wpList_plain hgd fun K hK => ?_
    have hst := run_storeCells_cells (P := Tryz.prog) g off (cells l) 0 w (fun j hj => by simpa using (ht j (by rw [cells_length] at hj; omega)).1) (fun j hj => by simpa using (ht j (by rw [cells_length] at hj; omega)).2) (cells_one l)
    have hld : (loadCells ⟨b, o', none⟩ l.length).run Tryz.prog w = .ok (cells l).toArray w := by
      have := run_loadCells_list (P := Tryz.prog) w ⟨b, o', none⟩ (cells l) (fun j v hv => by rw [Addr.add_mid]; exact hr j v hv)
      rwa [cells_length] at this
    have hmin : Nat.min l.length 64 = l.length := Nat.min_eq_left hl
    unfold Oper.wp
    have hrun : (Builtin.copy_ #[45, 45] o.type #[.slice (some ⟨g, off, none⟩) 64 64, .slice (some ⟨b, o', none⟩) l.length cap]).run Tryz.prog w = .ok (goInt l.length) (w.setCells g off (cells l)) := by
      simp only [Nat.add_zero] at hst
      simp [Builtin.copy_, run_underlying Tryz.underlying45, Builtin.lenOf, Builtin.firstCells, hz1, hmin, hld]
      rw [hst]
      rfl
    simp [execOp, ho, resolve, invoke, builtin, hd, hs, hrun, Result.andThen]
    exact hK _ _ (h _)

section
variable {w : World} {B d g n : Nat} {S : Nat → Sec} {L : Life}
set_option maxRecDepth 100000
theorem dwrite_dead (h : DV w B d g n S L) (hd : L.dead = true) (i : Int) (v : Value) : Calls Tryz.prog 75 #[.pointer (some ⟨d, 0, none⟩), .int .i64 i, v] w fun e w' => e = .returned (.int .i64 7) ∧ w = w' := by
  have C := Go.Lib.hid (ddead_c h)
  rw [hd] at C
  clear h hd
  go_enter Tryz.func75, Tryz.ntmps75
  go_wp2_with fail
  refine C.out.mono ?_
  rintro e w1 ⟨rfl, rfl⟩
  go_wp2_with fail
  go_ret
  exact ⟨rfl, rfl⟩
theorem dwrite_out (h : DV w B d g n S L) (hd : L.dead = false) (i : Int) (hi : i < 0 ∨ (n : Int) ≤ i) (v : Value) : Calls Tryz.prog 75 #[.pointer (some ⟨d, 0, none⟩), .int .i64 i, v] w fun e w' => e = .returned (.int .i64 3) ∧ w = w' := by
  have C := Go.Lib.hid (ddead_c h)
  rw [hd] at C
  have C2 := Go.Lib.hid (dhas_c h i)
  rw [show (decide (0 ≤ i) && decide (i < (n : Int))) = false from by rcases hi with hi | hi <;> simp <;> omega] at C2
  clear h hd hi
  go_enter Tryz.func75, Tryz.ntmps75
  go_wp2_with fail
  refine C.out.mono ?_
  rintro e w1 ⟨rfl, rfl⟩
  go_wp2_with fail
  refine C2.out.mono ?_
  rintro e w1 ⟨rfl, rfl⟩
  go_wp2_with fail
  go_ret
  exact ⟨rfl, rfl⟩
theorem dwrite_long (h : DV w B d g n S L) (hd : L.dead = false) (i : Int) (h0 : 0 ≤ i) (h1 : i < (n : Int)) (v : Value) (l : List UInt8) (hv : RB w v l) (hl : 64 < l.length) : Calls Tryz.prog 75 #[.pointer (some ⟨d, 0, none⟩), .int .i64 i, v] w fun e w' => e = .returned (.int .i64 1) ∧ w = w' := by
  have C := Go.Lib.hid (ddead_c h)
  rw [hd] at C
  have C2 := Go.Lib.hid (dhas_c h i)
  rw [show (decide (0 ≤ i) && decide (i < (n : Int))) = true from by simp; omega] at C2
  obtain ⟨a, cap, rfl, p1, p2, -⟩ := hv
  unfold maxLen at p2
  have hlI : (64 : Int) < (l.length : Int) := by omega
  generalize l.length = m at *
  clear h hd h0 h1
  go_enter Tryz.func75, Tryz.ntmps75
  go_wp2_with fail
  refine C.out.mono ?_
  rintro e w1 ⟨rfl, rfl⟩
  go_wp2_with fail
  refine C2.out.mono ?_
  rintro e w1 ⟨rfl, rfl⟩
  go_wp2_with fail
  go_ret
  exact ⟨rfl, rfl⟩
theorem dwrite_c (h : DV w B d g n S L) (hd : L.dead = false) (hc : L.calls < 1000000) (i : Nat) (hi : i < n) (v : Value) (l : List UInt8) (hv : RB w v l) (hl : l.length ≤ 64) : Calls Tryz.prog 75 #[.pointer (some ⟨d, 0, none⟩), .int .i64 (i : Int), v] w fun e w' => e = .returned (.int .i64 0) ∧ DV w' B d g n (wrS S i l) L.tick ∧ Two d (some g) w w' := by
  have C := Go.Lib.hid (ddead_c h)
  rw [hd] at C
  have C2 := Go.Lib.hid (dhas_c h i)
  rw [show (decide (0 ≤ (i : Int)) && decide ((i : Int) < (n : Int))) = true from by simp; omega] at C2
  have c0 := h.c0
  have hiI : (i : Int) < (n : Int) := by omega
  have hne := Go.Lib.hid h.ne
  have ht := h.row.there (i * 129) 64 (by omega)
  have hr1 := h.row.putNow i hi l hl
  have hr2 := hr1.putLoose i hi true
  have f2 := h.row.frozen (i * 129 + 128)
  have c2 := (h.row.sec i hi).loose
  have hdv : DV ((w.setCells g (i * 129) (cells l)).setCell ⟨g, i * 129 + 128, none⟩ (.bool true)) B d g n (wrS S i l) L := by
    refine (h.rowTo ?_ hr2).congr (fun j _ => ?_)
    · rw [Below.heap_setCell _ _ _ _ (fun e => hne.out e), setCells_heap_other hne.out]
    · unfold wrS upS
      by_cases e : j = i <;> simp [e]
  have CN := Go.Lib.hid (dcount_c hdv hd hc)
  have H := Go.Lib.hid h
  have hb := hv
  obtain ⟨a, cap, rfl, p1, p2, -⟩ := hv
  have hlI : (l.length : Int) ≤ 64 := by omega
  have HT := Go.Lib.hid ht
  have HB := Go.Lib.hid hb
  have HL := Go.Lib.hid hl
  generalize hm : l.length = m at *
  have HM := Go.Lib.hid hm
  have c2' : (w.setCells g (i * 129) (cells l)).cell? ⟨g, i * 129 + 128, none⟩ = some (.bool (S i).loose) := cell_apart c2 rfl _ _ _ (.inr (.inr (by rw [cells_length]; show i * 129 + l.length ≤ i * 129 + 128; omega)))
  have f2' : (w.setCells g (i * 129) (cells l)).frozen? ⟨g, i * 129 + 128, none⟩ = false := by rw [World.frozen?_setCells]; exact f2
  clear h hd ht hr1 hr2 hdv hb p1 p2 hl hm c2 f2
  go_enter Tryz.func75, Tryz.ntmps75
  go_wp2_with fail
  refine C.out.mono ?_
  rintro e w1 ⟨rfl, rfl⟩
  go_wp2_with fail
  refine C2.out.mono ?_
  rintro e w1 ⟨rfl, rfl⟩
  go_wp2_with (first
    | (with_reducible show wpList _ _ _ (⟨some 31, _, _, _, _, _⟩ :: _) _ _; go_must (refine wpList_copy_mid rfl (.tmp 29) (.tmp 30) rfl g (i * 129) (.slice a m cap) l rfl rfl HB.out (by rw [HM.out]; exact HL.out) HT.out ?_); intro k)
    | fail)
  refine CN.out.mono ?_
  rintro e w1 ⟨rfl, hdv, htwo⟩
  go_wp2_with fail
  go_ret
  exact ⟨rfl, hdv, Two.trans ((Two.refl _ _ _).cellsR.setR _) htwo⟩
end

end Go.Proofs.YtnalokjnbccjnaaGreatDoor

namespace Go.Proofs.YtnalokjnbccjnaaGreatDoor
open Go.RowKit

theorem sizeArr : (Tryz.prog.info? 86).map (·.size) = some 64 := by kernel_rfl
theorem cells_all (l : List UInt8) : (cells l).toArray.all (·.oneCell') = true := all_oneCell_toArray (cells_one l)

/-- 'x = *p', p the place of an array of 64 bytes. -/
theorem wpList_load64 {ops : Array Oper} {rest : List Oper} {o : Oper} {a : Act} {w : World} {Q : Exit → Act → World → Prop} (hgd : o.guard = none) (x : Operand) (ho : o.op = .load 86 x)
    (b off : Nat) (hx : a.eval x = .pointer (some ⟨b, off, none⟩)) (l : List UInt8) (hl : l.length = 64) (hc : w.rangeAt b off (cells l)) (h : wpList Tryz.prog ops Q rest (a.put o.dst (.agg (cells l).toArray)) w) : wpList Tryz.prog ops Q (o :: rest) a w :=
  wpList_load_mid hgd 86 x ho b off hx (cells l) _ hc Tryz.underlying86 rfl (by rw [sizeArr, cells_length, hl]) h
/-- '*p = x'. -/
theorem wpList_store64 {ops : Array Oper} {rest : List Oper} {o : Oper} {a : Act} {w : World} {Q : Exit → Act → World → Prop} (hgd : o.guard = none) (hd : o.dst = none) (x y : Operand) (ho : o.op = .store 86 x y)
    (b off : Nat) (l : List UInt8) (hx : a.eval x = .pointer (some ⟨b, off, none⟩)) (hy : a.eval y = .agg (cells l).toArray) (hl : l.length = 64) (ht : w.there b off 64) (h : wpList Tryz.prog ops Q rest a (w.setCells b off (cells l))) : wpList Tryz.prog ops Q (o :: rest) a w := by
  have hs : (cells l).toArray.size = 64 := by rw [List.size_toArray, cells_length, hl]
  refine wpList_store_mid hgd 86 x y ho b off (cells l).toArray hx hy (by rw [hs]; exact ht) (by rw [sizeArr, hs]) (cells_all l) ?_
  rw [hd]
  exact h

theorem OwnV.twoAbove {e : TypeId} {w w' : World} {B d g : Nat} {v : Value} {xs : List Value} (h : OwnV e w B v xs) (hk : Two d (some g) w w') (hd : d < B) (hg : g < B) : OwnV e w' B v xs := by
  refine ⟨h.1, ?_⟩
  rcases h.2 with h' | ⟨q, cap, cur, e1, hB, e2, e3⟩
  · exact .inl h'
  · exact .inr ⟨q, cap, cur, e1, hB, (hk.block q (Array.getElem?_eq_some_iff.1 e2).1 (by omega) (by simp; omega)).trans e2, e3⟩

theorem DV.flush1 {w : World} {B d g n : Nat} {S : Nat → Sec} {L : Life} (h : DV w B d g n S L) {i : Nat} (hi : i < n) {s : Sec} (e : S i = s) : DV ((w.setCells g (i * 129 + 64) (cells s.now)).setCell ⟨g, i * 129 + 128, none⟩ (.bool false)) B d g n (upS S i (flSec s)) L := by
  have hne := h.ne
  subst e
  refine (h.rowTo ?_ ((h.row.putKept i hi (S i).now (h.row.whole i hi).1).putLoose i hi false)).congr (fun j _ => ?_)
  · rw [Below.heap_setCell _ _ _ _ (fun e => hne e), setCells_heap_other hne]
  · unfold upS flSec
    by_cases e : j = i <;> simp [e]

set_option maxRecDepth 100000 in
theorem dflush_nil (w : World) : Calls Tryz.prog 62 #[.pointer none] w fun e w' => e = .returned (.int .i64 7) ∧ w = w' := by
  have C := Go.Lib.hid (ddead_nil w)
  go_enter Tryz.func62, Tryz.ntmps62
  go_wp2_with fail
  refine C.out.mono ?_
  rintro e w1 ⟨rfl, rfl⟩
  go_wp2_with fail
  go_ret
  exact ⟨rfl, rfl⟩

section
variable {w : World} {B d g n : Nat} {S : Nat → Sec} {L : Life}
set_option maxRecDepth 100000
theorem dflush_dead (h : DV w B d g n S L) (hd : L.dead = true) : Calls Tryz.prog 62 #[.pointer (some ⟨d, 0, none⟩)] w fun e w' => e = .returned (.int .i64 7) ∧ w = w' := by
  have C := Go.Lib.hid (ddead_c h)
  rw [hd] at C
  clear h hd
  go_enter Tryz.func62, Tryz.ntmps62
  go_wp2_with fail
  refine C.out.mono ?_
  rintro e w1 ⟨rfl, rfl⟩
  go_wp2_with fail
  go_ret
  exact ⟨rfl, rfl⟩
theorem dflush_c (h : DV w B d g n S L) (hd : L.dead = false) (hc : L.calls < 1000000) : Calls Tryz.prog 62 #[.pointer (some ⟨d, 0, none⟩)] w fun e w' => e = .returned (.int .i64 0) ∧ DV w' B d g n (flS S) L.tick ∧ Two d (some g) w w' := by
  have C := Go.Lib.hid (ddead_c h)
  rw [hd] at C
  have CL := Go.Lib.hid (dloose_c h)
  have hlt := Go.Lib.hid h.lt
  have hltg := Go.Lib.hid h.ltg
  have H := Go.Lib.hid h
  have HD := Go.Lib.hid hd
  clear h hd
  go_enter Tryz.func62, Tryz.ntmps62
  go_wp2_with fail
  refine C.out.mono ?_
  rintro e w1 ⟨rfl, rfl⟩
  go_wp2_with fail
  refine CL.out.mono ?_
  rintro e w1 ⟨v, rfl, hown, hb⟩
  have hle := looseL_length_le (lf S) n
  have hn1 := H.out.n1
  obtain ⟨a, cap, rfl, hlen⟩ := hown.rv.form
  rw [zi_length] at hlen hown
  obtain ⟨m, hm⟩ : ∃ m, m = (looseL (lf S) n).length := ⟨_, rfl⟩
  rw [← hm] at hlen hown hle
  have HM := Go.Lib.hid hm; clear hm
  rw [zi_length, ← HM.out]
  go_wp2_with fail
  have hdv1 := H.out.below hb
  have htwo1 := Two.of_below (b := d) (r := some g) hb
  go_loopw [11] (fun c wr => ∃ k : Nat, k ≤ m ∧ c = .int .i64 (k : Int) ∧ DV wr B d g n (flK S k) L ∧ Two d (some g) w1 wr) (fun c _ => m - (intOf c).toNat)
  case atStart => exact ⟨0, by omega, rfl, hdv1.congr (fun j _ => flK_zero S j), Two.refl _ _ _⟩
  case round =>
    obtain ⟨k, hk, rfl, hdv, htwo⟩ := hrel
    by_cases hkm : k < m
    · have hkl : k < (looseL (lf S) n).length := by rw [← HM.out]; exact hkm
      have hown2 := hown.twoAbove htwo hlt.out hltg.out
      obtain ⟨b, o, rfl, hcell, -⟩ := hown2.rv.at k (by rw [zi_length]; exact hkl)
      rw [zi_at .i64 _ k hkl] at hcell
      obtain ⟨i, hi⟩ : ∃ i, i = (looseL (lf S) n)[k] := ⟨_, rfl⟩
      have hin : i < n := by rw [hi]; exact (looseL_get (lf S) n k hkl).1
      have hat : flK S k i = S i := by rw [hi]; exact flK_at S n k hkl
      have hst := Go.Lib.hid (fun j => flK_step S n k hkl j)
      rw [← hi] at hcell
      rw [← hi] at hst
      have HI := Go.Lib.hid hi; clear hi
      have hdv2 := Go.Lib.hid (hdv.flush1 hin hat)
      have c0 := hdv.c0
      have hrn := Go.Lib.hid (hdv.row.sec i hin).now
      rw [hat] at hrn
      have h64 := Go.Lib.hid (hdv.row.whole i hin).1
      rw [hat] at h64
      have hth := Go.Lib.hid (hdv.row.there (i * 129 + 64) 64 (by omega))
      have hcl := (hdv.row.sec i hin).loose
      rw [hat] at hcl
      have f2 := hdv.row.frozen (i * 129 + 128)
      have c2 : (wr.setCells g (i * 129 + 64) (cells (S i).now)).cell? ⟨g, i * 129 + 128, none⟩ = some (.bool (S i).loose) := cell_apart hcl rfl _ _ _ (.inr (.inr (by rw [cells_length, h64.out]; show i * 129 + 64 + 64 ≤ i * 129 + 128; omega)))
      have f2' : (wr.setCells g (i * 129 + 64) (cells (S i).now)).frozen? ⟨g, i * 129 + 128, none⟩ = false := by rw [World.frozen?_setCells]; exact f2
      have hiI : (i : Int) < (n : Int) := by omega
      have hkI : (k : Int) < (m : Int) := by omega
      have HT := Go.Lib.hid htwo
      have hw : (k : Int) + 1 = ((k + 1 : Nat) : Int) := by omega
      have HW := Go.Lib.hid hw
      have HAT := Go.Lib.hid hat
      clear hdv hown2 hcl f2 hw htwo hat hown
      go_wp2_with (first
        | (with_reducible show wpList _ _ _ (⟨some 25, _, _, _, _, _⟩ :: _) _ _; go_must (refine wpList_load64 rfl (.tmp 24) rfl g (i * 129) rfl (S i).now h64.out hrn.out ?_))
        | (with_reducible show wpList _ _ _ (⟨none, Op.store 86 _ _, _, _, _, _⟩ :: _) _ _; go_must (refine wpList_store64 rfl rfl (.tmp 27) (.tmp 25) rfl g (i * 129 + 64) (S i).now rfl rfl h64.out hth.out ?_))
        | fail)
      go_roundw
      case rel => exact ⟨k + 1, by omega, by rw [HW.out], hdv2.out.congr (fun j _ => by rw [hst.out j]), HT.out.cellsR.setR _⟩
      case measure => simp only [intOf]; omega
    · obtain rfl : k = m := by omega
      have hdv' : DV wr B d g n (flS S) L := hdv.congr (fun j hj => by rw [HM.out, flK_all S n j hj])
      have CN := Go.Lib.hid (dcount_c hdv' HD.out hc)
      have HT := Go.Lib.hid htwo
      clear hdv hdv' htwo
      go_wp2_with fail
      refine CN.out.mono ?_
      rintro e w2 ⟨rfl, hd2, ht2⟩
      go_wp2_with fail
      go_ret
      exact ⟨rfl, hd2, (htwo1.trans HT.out).trans ht2⟩
end

end Go.Proofs.YtnalokjnbccjnaaGreatDoor
