/-
  The contract of super's encode.
-/
import Derived.Test.YtiejjiccncmeiaaDoorSupE
namespace Go.Proofs.YtiejjiccncmeiaaDoor
open Go.RowKit

/-- What stands while the sum is reckoned, and behind it. -/
structure JE (w0 : World) (B g : Nat) (l : List UInt8) (w : World) : Prop where
  below : Below B w0 w
  tab : Tab w
  own : Own 5 w B (.slice (some ⟨g, 0, none⟩) 64 64) l
theorem Tab.below2 {w w' : World} {B : Nat} (h : Tab w) (hb : Below B w w') (hB : 0 < B) : Tab w' := fun i hi => (hb.cell (by show 0 < B; exact hB)).trans (h i hi)
theorem JE.tail {w0 w : World} {B g : Nat} {l : List UInt8} (h : JE w0 B g l w) (hl : l.length = 64) : RB w (.slice (some ⟨g, 4, none⟩) 60 60) (l.drop 4) := by
  have h1 := h.own.rb.cut 4 64 (by omega) (by omega)
  have e : (l.take 64).drop 4 = l.drop 4 := by rw [List.take_of_length_le (by omega)]
  rw [e] at h1
  exact h1
def IE (w0 : World) (B g : Nat) (l3 : List UInt8) (s : Nat) (done : Nat → Bool) (w : World) : Prop := (done 6 = true → done 4 = true) ∧ JE w0 B g (if done 6 then putAt l3 0 (leN 4 s) else l3) w
theorem IE.keep {w0 w : World} {B g s : Nat} {l3 : List UInt8} {done : Nat → Bool} (h : IE w0 B g l3 s done w) (i : Nat) (hi : i ≠ 6) : IE w0 B g l3 s (doneToo done i) w := by
  obtain ⟨h1, h2⟩ := h
  refine ⟨fun hd => ?_, ?_⟩
  · rw [doneToo_other (Ne.symm hi)] at hd
    unfold doneToo
    split <;> simp [h1 hd]
  · rw [doneToo_other (Ne.symm hi)]
    exact h2
def VE (g s : Nat) : Nat → World → Value → Prop
  | 21, _, v => v = .slice (some ⟨g, 0, none⟩) 64 64
  | 22, _, v => v = .slice (some ⟨g, 0, none⟩) 4 64
  | 23, _, v => v = .slice (some ⟨g, 0, none⟩) 64 64
  | 24, _, v => v = .slice (some ⟨g, 4, none⟩) 60 60
  | 25, _, v => v = .int .u32 (s : Int)
  | 26, _, v => v = .int .u64 (s : Int)
  | 27, w, v => v = .tuple #[]
  | _, _, _ => True

theorem VE_below (g s : Nat) : ∀ (i : Nat) (w w' : World) (v : Value), VE g s i w v → Below w.heap.size w w' → VE g s i w' v := by
  intro i w w' v h hb
  unfold VE at h ⊢
  split at h <;> first | exact h | trivial | exact RB.below h hb | exact Own.below h hb

theorem VE_any (g s : Nat) : ∀ (i : Nat) (w w' : World) (v : Value), VE g s i w v → VE g s i w' v := by
  intro i w w' v h
  unfold VE at h ⊢
  split at h <;> first | exact h | trivial

set_option maxHeartbeats 1000000 in
set_option maxRecDepth 100000 in
theorem sencode_c (w : World) (v : Value) (text : List UInt8) (t : Nat) (hv : RB w v text) (hl : text.length ≤ 40) (ht : t ≤ 1099511627776) (hT : Tab w) :
    Calls Tryd.prog 29 #[v, .int .i64 (t : Int)] w fun e w' => ∃ u, e = .returned u ∧ Own 5 w' w.heap.size u (encS text t) ∧ Below w.heap.size w w' := by
  have hvb := hv
  obtain ⟨a, cap, rfl, -, -, -⟩ := hv
  have HV := Go.Lib.hid hvb
  have HT := Go.Lib.hid hT
  have hlt : (t : Int) ≤ 1099511627776 := by omega
  have hll : (text.length : Int) ≤ 40 := by omega
  clear hvb hT
  obtain ⟨m, hm⟩ : ∃ m, m = text.length := ⟨_, rfl⟩
  rw [← hm] at hll HV ⊢
  have HM := Go.Lib.hid hm
  clear hm hl ht
  obtain ⟨g, hgd⟩ : ∃ g, g = w.heap.size := ⟨_, rfl⟩
  have HG := Go.Lib.hid hgd
  have hTB : 0 < w.heap.size := World.block_lt_of_cell? w _ (HT.out 0 (by decide))
  have HTB := Go.Lib.hid hTB
  rw [← hgd] at HTB ⊢
  clear hTB hgd
  go_enter Tryd.func29, Tryd.ntmps29
  go_wp2_with (first
    | (with_reducible show wpList _ _ _ (⟨some 6, _, _, _, _, _⟩ :: _) _ _; go_must (refine wpList_make_own rfl (.const (.int .i64 64)) (.const (.int .i64 64)) 30 rfl 5 Tryd.underlying30 info8 .i64 .i64 64 64 64 rfl rfl rfl rfl (by omega) g HG.out ?_); go_must (intro w1 ho1 hb1 hs1; have H1 := Go.Lib.hid ho1; have HB1 := Go.Lib.hid hb1; clear ho1 hb1))
    | fail)
  have C1 := sput_c t w1 g g 4 8 60 64 64 (List.replicate 64 0) H1.out (by rw [List.length_replicate]; omega) (by omega) (Nat.le_refl _)
  refine C1.mono ?_
  rintro e w2 ⟨rfl, ho2, hb2⟩
  have HB2 := Go.Lib.hid (HB1.out.trans hb2)
  obtain ⟨l1, hL1⟩ : ∃ l1, l1 = putAt (List.replicate 64 (0 : UInt8)) 4 (leN 8 t) := ⟨_, rfl⟩
  rw [← hL1] at ho2
  have hl1 : l1.length = 64 := by rw [hL1, putAt_length (by rw [leN_length, List.length_replicate]; omega), List.length_replicate]
  have HL1 := Go.Lib.hid hL1
  obtain ⟨c12, hc12⟩ : ∃ c : Int, w2.cell? ⟨g, 12, none⟩ = some (.int .u8 c) := ⟨_, ho2.cell 12 (by omega)⟩
  have hf12 := ho2.frozenAt 12
  have hst := ho2.store 12 (UInt8.ofNat m) (m : Int) (by rw [UInt8.toNat_ofNat']; omega)
  have HST := Go.Lib.hid hst
  have HB3 := Go.Lib.hid (below_put HB2.out (Nat.le_refl g) 12 (.int .u8 (m : Int)))
  have HV3 := Go.Lib.hid (HV.out.below (HB3.out.mono (by rw [← HG.out]; exact Nat.le_refl _)))
  have hl2 : (l1.set 12 (UInt8.ofNat m)).length = 64 := by simpa using hl1
  have Hl2 := Go.Lib.hid hl2
  have hw8 : (m : Int) % 256 = (m : Int) := by omega
  have HMr := Go.Lib.hid (show m = text.length from HM.out)
  clear ho2 hb2 hst hl1 hL1 hl2 HB1 HB2 H1
  go_wp2_with (first
    | (with_reducible show wpList _ _ _ (⟨some 20, _, _, _, _, _⟩ :: _) _ _; go_must (refine wpList_copy_at rfl (.tmp 18) (.tmp 19) 30 rfl g 5 Tryd.underlying30 info8 g 13 51 51 64 64 (.slice a m cap) _ text rfl rfl HST.out HV3.out (by rw [← HMr.out]; omega) (by rw [Hl2.out, ← HMr.out]; omega) w HB3.out ?_); go_must (intro w3 ho3 hb3; have H3 := Go.Lib.hid ho3; have HB4 := Go.Lib.hid hb3; clear ho3 hb3; rw [← HMr.out]))
    | fail)
  obtain ⟨l3, hL3⟩ : ∃ l3, l3 = putAt (l1.set 12 (UInt8.ofNat m)) 13 text := ⟨_, rfl⟩
  have hl3 : l3.length = 64 := by rw [hL3, putAt_length (by rw [Hl2.out, ← HMr.out]; omega), Hl2.out]
  obtain ⟨s, hs⟩ : ∃ s, s = (crcSum (l3.drop 4)).toNat := ⟨_, rfl⟩
  have hs32 : s < 4294967296 := by rw [hs]; exact (crcSum (l3.drop 4)).isLt
  have h3 := H3.out
  rw [← hL3] at h3
  have HS := Go.Lib.hid hs.symm
  have HE : Hid (putAt l3 0 (leN 4 s) = encS text t) := Go.Lib.hid (by rw [hs, hL3, HL1.out, HMr.out]; exact encS_made text t (by rw [← HMr.out]; omega))
  have hTB : 0 < g := HTB.out
  have hT3 := HT.out.below2 HB4.out hTB
  have hI0 : IE w g g l3 s (fun _ => false) w3.drew := ⟨fun h => (by cases h), ⟨HB4.out.trans ((below_drewN (B := w3.heap.size) (Below.refl _ w3) 1).mono (by have := HB4.out.size; rw [← HG.out] at this; exact this)), hT3.below (below_drewN (B := w3.heap.size) (Below.refl _ w3) 1), h3.drew⟩⟩
  have hsm : IntKind.u64.wrap (s : Int) = (s : Int) := by rw [IntKind.wrap_u64]; omega
  have hBg : g ≤ g := Nat.le_refl _
  have HH := Go.Lib.hid HMr.out
  clear HST H3 HB3 HV3 Hl2 hw8 C1 hc12 hf12 HL1 hL3 hs h3 hs1 hT3
  refine wp_region_inv (by kernel_rfl) (VE g s) (IE w g g l3 s) (by decide +kernel) (by decide +kernel) (by rfl) [21, 22, 23, 24, 25, 26, 27] (by rfl) (hI0) ?_ ?_
  · intro i o ho a w6 done hI hnot hr hlen hg
    match i, ho with
    | 0, ho =>
      obtain rfl := Option.some.inj ho
      have h5 := given_old hg 5 (by decide +kernel)
      clear hg
      exact st_yield ho (wanted_none rfl) (.slice (some ⟨g, 0, none⟩) 64 64) w6 (by simp [execOp, Act.eval, h5, go_sem]) ⟨_, rfl, hI.keep 0 (by decide), fun _ _ h => h, by rintro t' ⟨⟩; rfl⟩
    | 1, ho =>
      obtain rfl := Option.some.inj ho
      obtain ⟨_, h21, rfl⟩ := given_fed hg 21 (by decide +kernel)
      clear hg
      exact st_yield ho (wanted_none rfl) (.slice (some ⟨g, 0, none⟩) 4 64) w6 (by simp [execOp, Act.eval, h21, go_sem]) ⟨_, rfl, hI.keep 1 (by decide), fun _ _ h => h, by rintro t' ⟨⟩; rfl⟩
    | 2, ho =>
      obtain rfl := Option.some.inj ho
      have h5 := given_old hg 5 (by decide +kernel)
      clear hg
      exact st_yield ho (wanted_none rfl) (.slice (some ⟨g, 0, none⟩) 64 64) w6 (by simp [execOp, Act.eval, h5, go_sem]) ⟨_, rfl, hI.keep 2 (by decide), fun _ _ h => h, by rintro t' ⟨⟩; rfl⟩
    | 3, ho =>
      obtain rfl := Option.some.inj ho
      obtain ⟨_, h23, rfl⟩ := given_fed hg 23 (by decide +kernel)
      clear hg
      exact st_yield ho (wanted_none rfl) (.slice (some ⟨g, 4, none⟩) 60 60) w6 (by simp [execOp, Act.eval, h23, go_sem]) ⟨_, rfl, hI.keep 3 (by decide), fun _ _ h => h, by rintro t' ⟨⟩; rfl⟩
    | 4, ho =>
      obtain rfl := Option.some.inj ho
      obtain ⟨_, h24, rfl⟩ := given_fed hg 24 (by decide +kernel)
      clear hg
      have hq : done 6 = false := by cases h : done 6 with | false => rfl | true => have := hI.1 h; rw [hnot] at this; cases this
      have hc := hI.2
      rw [hq] at hc
      exact st_enter (w1 := w6) ho (wanted_none rfl) 34 #[.slice (some ⟨g, 4, none⟩) 60 60] (by simp [execOp, Act.eval, h24, resolve, go_sem]) ((sum_c _ (l3.drop 4) _ hc.tab (hc.tail hl3)).mono (by rintro e w7 ⟨rfl, rfl⟩; rw [HS.out]; exact ⟨_, rfl, _, rfl, hI.keep 4 (by decide), fun _ _ h => h, by rintro t' ⟨⟩; rfl⟩))
    | 5, ho =>
      obtain rfl := Option.some.inj ho
      obtain ⟨_, h25, rfl⟩ := given_fed hg 25 (by decide +kernel)
      clear hg
      exact st_yield ho (wanted_none rfl) (.int .u64 (s : Int)) w6 (by simp [execOp, Act.eval, h25, go_sem, hsm]) ⟨_, rfl, hI.keep 5 (by decide), fun _ _ h => h, by rintro t' ⟨⟩; rfl⟩
    | 6, ho =>
      obtain rfl := Option.some.inj ho
      obtain ⟨_, h22, rfl⟩ := given_fed hg 22 (by decide +kernel)
      obtain ⟨_, h26, rfl⟩ := given_fed hg 26 (by decide +kernel)
      clear hg
      have hc := hI.2
      rw [hnot] at hc
      exact st_enter (w1 := w6) ho (wanted_none rfl) 33 #[.slice (some ⟨g, 0, none⟩) 4 64, .int .u64 (s : Int)] (by simp [execOp, Act.eval, h22, h26, resolve, go_sem]) ((sput_c s _ g g 0 4 64 64 64 l3 hc.own (by omega) (by omega) hBg).mono (by rintro e w7 ⟨rfl, ho7, hb7⟩; exact ⟨_, rfl, _, rfl, ⟨fun _ => by rw [doneToo_other (by decide)]; exact hr 4 (by decide +kernel), by rw [doneToo_self]; exact ⟨hc.below.trans hb7, hc.tab.below2 hb7 hTB, ho7⟩⟩, fun t u h => VE_any _ _ _ _ _ _ h, by rintro t' ⟨⟩; rfl⟩))
    | n + 7, ho => simp at ho
  · intro f w7 done hall hI hv
    have h6 := hall 6 (by decide)
    obtain ⟨-, hI2⟩ := hI
    rw [h6, if_pos rfl, HE.out] at hI2
    clear hv hall
    unfold putAll
    simp only [List.foldl]
    go_simp
    go_wp2_with fail
    go_ret
    exact ⟨_, rfl, hI2.own, hI2.below⟩

end Go.Proofs.YtiejjiccncmeiaaDoor
