/-
  Stage 17: the laws' eq, find.
-/
import Derived.Test.YtgbaeipemlcbcaaCucL
import Derived.BigQuiet
import Derived.Deep.DeepCutAuto
namespace Go.Proofs.Ytgbaeipemlcbcaa
open Go.RowKit

def KE : Lay EnT := ⟨fun e => [.int .u64 (e.1 : Int), .int .i64 e.2], 2, 34, 26, .agg #[.int .u64 0, .int .i64 0], 16⟩
theorem KE_ok : KE.Ok Try.prog := ⟨by decide, fun _ => rfl, fun x u hu => by
  rcases List.mem_cons.1 hu with rfl | hu
  · rfl
  · rw [List.mem_singleton.1 hu]; rfl, Try.underlying26, by kernel_rfl, rfl, by decide⟩
theorem KI.at' {w : World} {a : Option Addr} {n cap : Nat} {l : List Int} (h : KI.R w (.slice a n cap) l) (i : Nat) (hi : i < l.length) : ∃ b o, a = some ⟨b, o, none⟩ ∧ n = l.length ∧ b < w.heap.size ∧ w.cell? ⟨b, o + i, none⟩ = some (.int .i64 l[i]) := by
  obtain ⟨b, o, h1, h2, h3, h4⟩ := h.at KI_ok i hi
  exact ⟨b, o, h1, h2, h3, by have := h4 0 _ rfl; simpa [KI] using this⟩
theorem idxI (b o n cap j : Nat) (h : j < n) (W : World) : (Instr.indexAt 38 (.slice (some ⟨b, o, none⟩) n cap) (.int .i64 (j : Int))).run Try.prog W = .ok (.pointer (some ⟨b, o + j, none⟩)) W := by
  have := KI_ok.run_idx b o n cap j h W
  simpa [KI] using this
theorem KE.at' {w : World} {a : Option Addr} {n cap : Nat} {l : List EnT} (h : KE.R w (.slice a n cap) l) (i : Nat) (hi : i < l.length) : ∃ b o, a = some ⟨b, o, none⟩ ∧ n = l.length ∧ b < w.heap.size ∧ w.cell? ⟨b, o + i * 2, none⟩ = some (.int .u64 (l[i].1 : Int)) ∧ w.cell? ⟨b, o + i * 2 + 1, none⟩ = some (.int .i64 l[i].2) := by
  obtain ⟨b, o, h1, h2, h3, h4⟩ := h.at KE_ok i hi
  exact ⟨b, o, h1, h2, h3, h4 0 _ rfl, h4 1 _ rfl⟩
theorem idxE' (b o n cap j : Nat) (h : j < n) (W : World) : (Instr.indexAt 26 (.slice (some ⟨b, o, none⟩) n cap) (.int .i64 (j : Int))).run Try.prog W = .ok (.pointer (some ⟨b, o + j * 2, none⟩)) W :=
  KE_ok.run_idx b o n cap j h W

set_option maxHeartbeats 1000000 in
set_option maxRecDepth 100000 in
theorem eqI_c (u v : Value) (l m : List Int) (w : World) (hu : KI.R w u l) (hv : KI.R w v m) :
    Calls Try.prog 13 #[u, v] w fun e w' => e = .returned (.bool (decide (l = m))) ∧ Below w.heap.size w w' := by
  obtain ⟨a, cap, rfl, hm1⟩ := hu.form
  obtain ⟨a2, cap2, rfl, hm2⟩ := hv.form
  have HU := Go.Lib.hid hu
  clear hu
  by_cases hn : l.length = m.length
  · have Hn := Go.Lib.hid hn
    rw [← hn] at hv ⊢
    have HV := Go.Lib.hid hv
    clear hv hn
    go_enter Try.func13, Try.ntmps13
    go_wp2_with fail
    go_loopw [5] (fun i wr => ∃ k : Nat, k ≤ l.length ∧ i = .int .i64 (k : Int) ∧ Hid (∀ (j : Nat) (hj : j < l.length) (hm : j < m.length), j < k → l[j] = m[j]) ∧ Below w.heap.size w wr) (fun i _ => l.length - (intOf i).toNat)
    case atStart => exact ⟨0, by omega, rfl, Go.Lib.hid (fun j hj hm h => by omega), Below.refl _ _⟩
    case round =>
      obtain ⟨k, hk, rfl, hall, hbc⟩ := hrel
      by_cases hlt : k < l.length
      · have hlt2 : k < m.length := by have := Hn.out; omega
        obtain ⟨b, o, rfl, -, hbs, c0⟩ := KI.at' (HU.out.below hbc) k hlt
        obtain ⟨b2, o2, rfl, -, hbs2, d0⟩ := KI.at' (HV.out.below hbc) k hlt2
        have Hyes := Go.Lib.hid (fun (h : l[k] = m[k]) => show ∀ (j : Nat) (hj : j < l.length) (hm : j < m.length), j < k + 1 → l[j] = m[j] from fun j hj hm h1 => by
          rcases Nat.lt_or_ge j k with h2 | h2
          · exact hall.out j hj hm h2
          · obtain rfl : j = k := by omega
            exact h)
        have Hnot := Go.Lib.hid (fun (h : l[k] ≠ m[k]) => show decide (l = m) = false from decide_eq_false (fun e => h (by simp only [e])))
        have hix := idxI b o l.length cap k hlt
        have hix2 := idxI b2 o2 l.length cap2 k hlt
        generalize l[k] = x at *
        generalize m[k] = y at *
        have HBC := Go.Lib.hid hbc
        have Hlt := Go.Lib.hid hlt
        by_cases hp : x = y
        · have HY := Go.Lib.hid (Hyes.out hp)
          subst hp
          have hxx : (x != x) = false := by simp
          clear Hyes Hnot hall hbc hlt2
          go_upto_region 6 with (fail)
          go_quiet (fail)
          go_wp2_with fail
          go_roundw
          case rel => exact ⟨k + 1, by have := Hlt.out; omega, by go_num, HY, below_drewN HBC.out _⟩
          case measure => simp only [intOf]; have := Hlt.out; omega
        · have HN := Go.Lib.hid (Hnot.out hp)
          have hxy : (x != y) = true := by simp [hp]
          have hxy2 : (x == y) = false := by simp [hp]
          clear Hyes Hnot hall hbc hlt2 hp
          go_upto_region 6 with (fail)
          go_quiet (fail)
          go_wp2_with fail
          go_ret
          exact ⟨ret_of (congrArg Value.bool HN.out.symm), below_drewN HBC.out _⟩
      · obtain rfl : k = l.length := by omega
        have K := Go.Lib.hid (show decide (l = m) = true from decide_eq_true (List.ext_getElem Hn.out (fun j hj hm => hall.out j hj hm hj)))
        clear hall hlt
        go_wp2_with fail
        go_ret
        exact ⟨ret_of (congrArg Value.bool K.out.symm), hbc⟩
  · have K := Go.Lib.hid (show decide (l = m) = false from decide_eq_false (fun e => hn (by rw [e])))
    have hI : ((l.length : Int) == (m.length : Int)) = false := by simp only [beq_eq_false_iff_ne, ne_eq]; omega
    have HV := Go.Lib.hid hv
    clear hn hv
    go_enter Try.func13, Try.ntmps13
    go_wp2_with fail
    go_ret
    exact ⟨ret_of (congrArg Value.bool K.out.symm), Below.refl _ _⟩

/-! ### find. -/
def findL (l : List EnT) (x : Nat) : List Int := (l.filter fun e => nearN x e.1).map Prod.snd
theorem findL_yes {l : List EnT} {x k : Nat} (hk : k < l.length) (h : nearN x l[k].1 = true) : findL (l.take (k + 1)) x = findL (l.take k) x ++ [l[k].2] := by
  unfold findL
  rw [List.take_succ_eq_append_getElem hk, List.filter_append, List.map_append]
  simp [h]
theorem findL_no {l : List EnT} {x k : Nat} (hk : k < l.length) (h : nearN x l[k].1 = false) : findL (l.take (k + 1)) x = findL (l.take k) x := by
  unfold findL
  rw [List.take_succ_eq_append_getElem hk, List.filter_append]
  simp [h]
def gapL (F : List Int) (t : Nat) (z : Int) : List Int := F.take t ++ z :: F.drop t
theorem gapL_len {F : List Int} {t : Nat} (z : Int) (ht : t ≤ F.length) : (gapL F t z).length = F.length + 1 := by unfold gapL; simp; omega
theorem gapL_end (F : List Int) (z : Int) : gapL F F.length z = F ++ [z] := by unfold gapL; simp
theorem gapL_at {F : List Int} {s : Nat} (z : Int) (hs : s < F.length) : (gapL F (s + 1) z)[s]? = some F[s] := by
  unfold gapL
  rw [List.getElem?_append_left (by rw [List.length_take]; omega), List.getElem?_take, if_pos (by omega), List.getElem?_eq_getElem hs]
theorem KI.cellO {w : World} {B g n cap : Nat} {l : List Int} (h : KI.O w B (.slice (some ⟨g, 0, none⟩) n cap) l) {s : Nat} {y : Int} (hy : l[s]? = some y) : w.cell? ⟨g, s, none⟩ = some (.int .i64 y) := by
  obtain ⟨hs, rfl⟩ := List.getElem?_eq_some_iff.1 hy
  have := h.cell KI_ok s hs 0 (.int .i64 l[s]) rfl
  simpa [KI] using this
theorem KI.storeO {w : World} {B g n cap : Nat} {l : List Int} (h : KI.O w B (.slice (some ⟨g, 0, none⟩) n cap) l) {s : Nat} (hs : s < l.length) (y : Int) :
    KI.O (w.setCell ⟨g, s, none⟩ (.int .i64 y)) B (.slice (some ⟨g, 0, none⟩) n cap) (l.set s y) ∧ w.grownBy (w.setCell ⟨g, s, none⟩ (.int .i64 y)) (some g) := by
  have := h.storeCell KI_ok s hs 0 (by decide) (.int .i64 y) y rfl
  simpa [KI] using this
theorem gapL_set {F : List Int} {t : Nat} (z y : Int) (ht : t ≤ F.length) : (gapL F t z).set t y = gapL F t y := by
  unfold gapL
  rw [List.set_append_right _ _ (by rw [List.length_take]; omega), List.length_take, Nat.min_eq_left ht, Nat.sub_self]
  rfl
theorem gapL_back {F : List Int} {s : Nat} (hs : s < F.length) : gapL F (s + 1) F[s] = gapL F s F[s] := by
  unfold gapL
  rw [List.take_succ_eq_append_getElem hs, List.append_assoc]
  congr 1
  rw [List.drop_eq_getElem_cons hs]
  rfl
theorem gapL_perm (F : List Int) (t : Nat) (z : Int) : (gapL F t z).Perm (F ++ [z]) := by
  have h : (F.take t ++ z :: F.drop t).Perm (z :: (F.take t ++ F.drop t)) := List.perm_middle
  rw [List.take_append_drop] at h
  exact h.trans (List.perm_append_singleton z F).symm
theorem gapL_sorted {F : List Int} {t : Nat} {z : Int} (hF : F.Pairwise (· ≤ ·)) (ht : t ≤ F.length) (h1 : ∀ s, (hs : s < F.length) → s + 1 = t → F[s] ≤ z) (h2 : ∀ y ∈ F.drop t, z < y) : (gapL F t z).Pairwise (· ≤ ·) := by
  unfold gapL
  have hsplit : (F.take t ++ F.drop t).Pairwise (· ≤ ·) := by rw [List.take_append_drop]; exact hF
  rw [List.pairwise_append] at hsplit
  obtain ⟨p1, p2, p3⟩ := hsplit
  rw [List.pairwise_append]
  refine ⟨p1, List.pairwise_cons.2 ⟨fun y hy => Int.le_of_lt (h2 y hy), p2⟩, fun a ha b hb => ?_⟩
  have haz : a ≤ z := by
    cases t with
    | zero => simp at ha
    | succ s =>
      have hs : s < F.length := by omega
      have hz := h1 s hs rfl
      rw [List.take_succ_eq_append_getElem hs] at ha p1
      rcases List.mem_append.1 ha with ha | ha
      · rw [List.pairwise_append] at p1
        exact Int.le_trans (p1.2.2 a ha _ (List.mem_singleton.2 rfl)) hz
      · rw [List.mem_singleton.1 ha]; exact hz
  rcases List.mem_cons.1 hb with rfl | hb
  · exact haz
  · exact Int.le_trans haz (Int.le_of_lt (h2 b hb))

set_option maxHeartbeats 2000000 in
set_option maxRecDepth 100000 in
theorem find_c (v : Value) (l : List EnT) (x : Nat) (w : World) (hv : KE.R w v l) (hlt : ∀ e ∈ l, e.1 < 18446744073709551616) (hx : x < 18446744073709551616) (hlen : l.length ≤ 1000) :
    Calls Try.prog 15 #[v, .int .u64 (x : Int)] w fun e w' => ∃ v' F, e = .returned v' ∧ KI.R w' v' F ∧ F.Pairwise (· ≤ ·) ∧ F.Perm (findL l x) ∧ Below w.heap.size w w' := by
  obtain ⟨a, cap, rfl, hm⟩ := hv.form
  have HV := Go.Lib.hid hv
  have HLT := Go.Lib.hid hlt
  have HX := Go.Lib.hid hx
  clear hv hlt hx
  go_enter Try.func15, Try.ntmps15
  go_wp2_with fail
  go_loopw [5, 6] (fun uv i wr => ∃ (k : Nat) (u : Value) (F : List Int), u = uv ∧ k ≤ l.length ∧ i = .int .i64 (k : Int) ∧ KI.O wr w.heap.size u F ∧ Hid (F.Pairwise (· ≤ ·) ∧ F.Perm (findL (l.take k) x)) ∧ F.length ≤ k ∧ Below w.heap.size w wr) (fun _ i _ => l.length - (intOf i).toNat)
  case atStart => exact ⟨0, _, [], rfl, by omega, rfl, Lay.O.nil _ _, Go.Lib.hid ⟨List.Pairwise.nil, by simp [findL]⟩, by simp, Below.refl _ _⟩
  case round =>
    obtain ⟨k, u, F, rfl, hk, rfl, hown, hF, hFl, hbc⟩ := hrel
    by_cases hkl : k < l.length
    · obtain ⟨b, o, rfl, -, hbs, d0, d1⟩ := KE.at' HV.out k hkl
      have hix := idxE' b o l.length cap k hkl
      have CN := Go.Lib.hid fun W => rnear_c x l[k].1 W HX.out (HLT.out _ (List.getElem_mem hkl))
      have Hyes := Go.Lib.hid (fun h => findL_yes (x := x) hkl h)
      have Hno := Go.Lib.hid (fun h => findL_no (x := x) hkl h)
      have HK0 := Go.Lib.hid (fun W (hW : Below w.heap.size w W) => (hW.cell (World.block_lt_of_cell? w _ d0)).trans d0)
      have HK1 := Go.Lib.hid (fun W (hW : Below w.heap.size w W) => (hW.cell (World.block_lt_of_cell? w _ d1)).trans d1)
      clear d0 d1 hbs
      obtain ⟨en, hen⟩ : ∃ en, en = l[k].1 := ⟨_, rfl⟩
      obtain ⟨id, hid⟩ : ∃ id, id = l[k].2 := ⟨_, rfl⟩
      rw [← hid] at HK1 Hyes
      rw [← hen] at CN HK0 Hyes Hno
      have Hkl := Go.Lib.hid hkl
      clear hid hen hkl
      have c0 := HK0.out wr hbc
      cases hn : nearN x en with
      | false =>
        rw [hn] at CN
        have HF2 := Go.Lib.hid (show F.Pairwise (· ≤ ·) ∧ F.Perm (findL (l.take (k + 1)) x) by rw [Hno.out hn]; exact hF.out)
        have HO := Go.Lib.hid hown
        have HB := Go.Lib.hid hbc
        clear hn Hyes Hno hF hown hbc
        go_wp2_with fail
        refine (CN.out _).mono ?_
        rintro e w1 ⟨rfl, rfl⟩
        go_wp2_with fail
        go_roundw
        case rel => exact ⟨k + 1, _, F, rfl, by have := Hkl.out; omega, by go_num, HO.out, HF2, by omega, HB.out⟩
        case measure => simp only [intOf]; have := Hkl.out; omega
      | true =>
        rw [hn] at CN
        have HF2 := Go.Lib.hid (show ∀ t : Nat, (gapL F t id).Perm (findL (l.take (k + 1)) x) by
          intro t
          rw [Hyes.out hn]
          exact (gapL_perm F t id).trans (hF.out.2.append_right _))
        have HFs := Go.Lib.hid hF.out.1
        obtain ⟨au, cu, rfl, -⟩ := hown.r.form
        have hb0 := (Below.refl wr.heap.size wr).alloc (Nat.le_refl _) (.cells #[.int .i64 0] 3)
        have HO := Go.Lib.hid (hown.below hb0)
        have HB := Go.Lib.hid (hbc.trans (hb0.mono hbc.size))
        have HONE := Go.Lib.hid (Lay.R.one wr KI_ok (0 : Int) 3 (0, 0))
        clear hn Hyes Hno hF hown hbc hb0
        go_wp2_with fail
        refine (CN.out _).mono ?_
        rintro e w1 ⟨rfl, rfl⟩
        go_wp2_with (first
          | ((with_reducible show wpList _ _ _ (⟨some 26, _, _, _, _, _⟩ :: _) _ _); go_loud (refine KI_ok.append rfl (.tmp 24) (.tmp 25) rfl w.heap.size (.slice au F.length cu) (.slice (some ⟨wr.heap.size, 0, none⟩) 1 1) F [0] rfl rfl HO.out HONE.out (by simp; omega) HB.out.size ?_); intro v2 w2 hown2 hg2; have HB2 := Go.Lib.hid (HB.out.grown hg2 HB.out.size HO.out.row); have HO2 := Go.Lib.hid hown2; clear hown2 hg2)
          | fail)
        obtain ⟨g, cg, rfl, hgB, hgs, hgc, hgm⟩ := HO2.out.form (by simp)
        have hlen1 : (F ++ [(0 : Int)]).length = F.length + 1 := by simp
        rw [hlen1] at HO2 hgc
        rw [← gapL_end] at HO2
        obtain ⟨FL, hFL⟩ : ∃ FL, FL = F.length := ⟨_, rfl⟩
        rw [← hFL] at HO2 hgc hFl
        rw [hlen1, ← hFL]
        have HFL := Go.Lib.hid hFL
        have hfm : FL + 1 ≤ 1000000 := by omega
        clear hFL hlen1 HO HONE HB c0 hgs
        go_wp2_with fail
        go_loopw [7] (fun tv w3 => ∃ (t : Nat) (z : Int), t ≤ FL ∧ tv = .int .i64 (t : Int) ∧ KI.O w3 w.heap.size (.slice (some ⟨g, 0, none⟩) (FL + 1) cg) (gapL F t z) ∧ Hid (∀ y ∈ F.drop t, id < y) ∧ Below w.heap.size w w3) (fun tv _ => (intOf tv).toNat)
        case atStart => exact ⟨FL, 0, Nat.le_refl _, rfl, by rw [HFL.out]; rw [HFL.out] at HO2; exact HO2.out, Go.Lib.hid (by rw [HFL.out, List.drop_length]; intro y hy; cases hy), HB2.out⟩
        case round =>
          obtain ⟨t, z, ht, rfl, hO, hd, hb3⟩ := hrel
          have HO := Go.Lib.hid (fun n => hO.below (below_drewN (Below.refl wr.heap.size wr) n))
          have HB3 := Go.Lib.hid (fun n => below_drewN hb3 n)
          have htF : t ≤ F.length := by rw [← HFL.out]; exact ht
          have hgl : t < (gapL F t z).length := by rw [gapL_len z htF]; omega
          have ce := fun n => HK1.out _ (HB3.out n)
          have HEND := Go.Lib.hid (fun n => KI.storeO (HO.out n) hgl id)
          rw [gapL_set z id htF] at HEND
          have cz : ∀ n, (wr.drewN n).cell? ⟨g, t, none⟩ = some (.int .i64 (gapL F t z)[t]) := fun n => KI.cellO (HO.out n) (List.getElem?_eq_getElem hgl)
          have fz : ∀ n, (wr.drewN n).frozen? ⟨g, t, none⟩ = false := fun n => (HO.out n).frozenAt t
          generalize (gapL F t z)[t] = zz at cz
          have hixt : ∀ W : World, (Instr.indexAt 38 (.slice (some ⟨g, 0, none⟩) (FL + 1) cg) (.int .i64 (t : Int))).run Try.prog W = .ok (.pointer (some ⟨g, t, none⟩)) W := fun W => by have := idxI g 0 (FL + 1) cg t (by omega) W; rwa [Nat.zero_add] at this
          by_cases h0 : t = 0
          · have HS := Go.Lib.hid (show (gapL F t id).Pairwise (· ≤ ·) from gapL_sorted HFs.out htF (fun s hs he => by omega) hd.out)
            have hp1 : decide ((0 : Int) < (t : Int)) = false := decide_eq_false (by omega)
            have hp2 : decide (0 < t) = false := decide_eq_false (by omega)
            have htm : t ≤ 1000000 := by omega
            clear hd hO hb3 hgl h0
            go_upto_region 8 with (fail)
            go_quiet (fail)
            go_wp2_with fail
            go_roundw
            case rel => exact ⟨k + 1, _, gapL F t id, rfl, by have := Hkl.out; omega, by go_num, (HEND.out _).1, Go.Lib.hid ⟨HS.out, HF2.out t⟩, by rw [gapL_len id htF, ← HFL.out]; omega, (HB3.out _).grown (HEND.out _).2 (HB3.out _).size (fun q hq => by cases hq; exact hgB)⟩
            case measure => simp only [intOf]; have := Hkl.out; omega
          · obtain ⟨s, hs⟩ : ∃ s, t = s + 1 := ⟨t - 1, by omega⟩
            have hp1 : decide ((0 : Int) < (t : Int)) = true := decide_eq_true (by omega)
            have hp2 : decide (0 < t) = true := decide_eq_true (by omega)
            have hpos : (0 : Int) < (t : Int) := by omega
            have hpos2 : 0 < t := by omega
            have hsub : (t : Int) - 1 = (s : Int) := by omega
            have hsF : s < F.length := by omega
            have cs : ∀ n, (wr.drewN n).cell? ⟨g, s, none⟩ = some (.int .i64 F[s]) := fun n => KI.cellO (HO.out n) (by rw [hs]; exact gapL_at z hsF)
            have hixs : ∀ W : World, (Instr.indexAt 38 (.slice (some ⟨g, 0, none⟩) (FL + 1) cg) (.int .i64 (s : Int))).run Try.prog W = .ok (.pointer (some ⟨g, s, none⟩)) W := fun W => by have := idxI g 0 (FL + 1) cg s (by omega) W; rwa [Nat.zero_add] at this
            have HST := Go.Lib.hid (fun n => KI.storeO (HO.out n) hgl F[s])
            rw [gapL_set z F[s] htF, hs, gapL_back hsF, ← hs] at HST
            have HSORT := Go.Lib.hid (fun (h : F[s] ≤ id) => show (gapL F t id).Pairwise (· ≤ ·) from gapL_sorted HFs.out htF (fun s' hs' he => by (obtain rfl : s' = s := by omega); exact h) hd.out)
            have HD := Go.Lib.hid (fun (h : id < F[s]) => show ∀ y ∈ F.drop s, id < y from fun y hy => by
              rw [List.drop_eq_getElem_cons hsF, ← hs] at hy
              rcases List.mem_cons.1 hy with rfl | hy
              · exact h
              · exact hd.out y hy)
            generalize F[s] = y at *
            have hst1 : s ≤ FL := by omega
            have Hst1 := Go.Lib.hid hs
            have htm : t ≤ 1000000 := by omega
            clear hs hsF h0 htF
            by_cases hgt : id < y
            · have HD2 := Go.Lib.hid (HD.out hgt)
              have hdec : decide (id < y) = true := decide_eq_true hgt
              clear hd hO hb3 hgl HSORT HD
              go_upto_region 8 with (fail)
              go_quiet (fail)
              go_wp2_with fail
              go_roundw
              case rel => exact ⟨s, y, hst1, by go_num, (HST.out _).1, HD2, (HB3.out _).grown (HST.out _).2 (HB3.out _).size (fun q hq => by cases hq; exact hgB)⟩
              case measure => simp only [intOf]; omega
            · have HS := Go.Lib.hid (HSORT.out (by omega))
              have hdec : decide (id < y) = false := decide_eq_false hgt
              clear hd hO hb3 hgl HSORT HD
              go_upto_region 8 with (fail)
              go_quiet (fail)
              go_wp2_with fail
              go_roundw
              case rel => exact ⟨k + 1, _, gapL F t id, rfl, by have := Hkl.out; omega, by go_num, (HEND.out _).1, Go.Lib.hid ⟨HS.out, HF2.out t⟩, by rw [gapL_len id (by rw [← HFL.out]; omega), ← HFL.out]; omega, (HB3.out _).grown (HEND.out _).2 (HB3.out _).size (fun q hq => by cases hq; exact hgB)⟩
              case measure => simp only [intOf]; have := Hkl.out; omega
    · obtain rfl : k = l.length := by omega
      rw [List.take_length] at hF
      have HF := Go.Lib.hid hF
      have HO := Go.Lib.hid hown.r
      clear hown hkl hF
      go_wp2_with fail
      go_ret
      exact ⟨_, F, rfl, HO.out, HF.out.out.1, HF.out.out.2, hbc⟩

end Go.Proofs.Ytgbaeipemlcbcaa
