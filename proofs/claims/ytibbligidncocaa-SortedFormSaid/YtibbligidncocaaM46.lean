/-
  Records that were cut; the reference's May of one.
  Slices of records: contract of the laws' Recs.
  The law's Pairs.
-/
import Derived.Test.YtibbligidncocaaM23
import Derived.Test.YtibbligidncocaaM14
import Derived.Test.YtibbligidncocaaM13
import Derived.LoopTactic
import Derived.Test.YtibbligidncocaaM45
import Derived.Test.YtibbligidncocaaM37
import Derived.Test.YtibbligidncocaaM18
namespace Go.Proofs.Ytibbligidncocaa
open Go.RowKit

def cutR (x : RecT) : RecT := (str ((bl x.1).take 20), x.2.1, x.2.2.1, x.2.2.2.1, str ((bl x.2.2.2.2).take 30))

theorem cut_sizes {l : List RecT} {n : Nat} {x : RecT} (h : x ∈ (l.take n).map cutR) : x.1.size ≤ 20 ∧ x.2.2.2.2.size ≤ 30 := by
  obtain ⟨y, -, rfl⟩ := List.mem_map.1 h
  unfold cutR
  simp only []
  rw [str_size, str_size, List.length_take, List.length_take]
  omega
end Go.Proofs.Ytibbligidncocaa

namespace Go.Proofs.Ytibbligidncocaa
open Go.RowKit

set_option maxHeartbeats 2000000 in
set_option maxRecDepth 100000 in
theorem recs_c (v : Value) (l : List RecT) (n : Nat) (w : World) (hv : RRec w v l) (hn : n ≤ 1000) :
    Calls Try.prog 28 #[v, .int .i64 (n : Int)] w fun e w' => ∃ v', e = .returned v' ∧ OwnRec w' w.heap.size v' ((l.take n).map cutR) ∧ Below w.heap.size w w' := by
  have Hok := Go.Lib.hid hv.ok
  have hrs := hv.rs
  obtain ⟨a, cap, rfl, hm⟩ := hrs.form
  clear hv
  have HR := Go.Lib.hid hrs; clear hrs
  go_enter Try.func28, Try.ntmps28
  go_wp2_with fail
  go_loopw [5, 6] (fun vb i w2 => ∃ k : Nat, k ≤ l.length ∧ k ≤ n ∧ i = .int .i64 (k : Int) ∧ OwnRec w2 w.heap.size vb ((l.take k).map cutR) ∧ Below w.heap.size w w2) (fun _ i _ => n - (intOf i).toNat)
  case atStart => exact ⟨0, by omega, by omega, rfl, by simpa using OwnRec.nil _ _, Below.refl _ _⟩
  case round =>
    obtain ⟨k, hk, hkn, rfl, hown, hbc⟩ := hrel
    by_cases hlt : k < l.length
    · by_cases hltn : k < n
      · obtain ⟨b, o, rfl, -, hbs, c0, c1, c2, c3, c4⟩ := (HR.out.below hbc).at k hlt
        have ok := Hok.out l[k] (List.getElem_mem hlt)
        have hsn : (l.take (k + 1)).map cutR = (l.take k).map cutR ++ [cutR l[k]] := by rw [List.take_succ_eq_append_getElem hlt, List.map_append]; rfl
        have hml : ((l.take k).map cutR).length ≤ 1000 := by rw [List.length_map, List.length_take]; omega
        generalize l[k] = x at *
        obtain ⟨key, gone, rk, rn, rs⟩ := x
        obtain ⟨ok1, -, -, ok4⟩ := ok
        simp only [] at c0 c1 c2 c3 c4 ok1 ok4
        have C1 := Go.Lib.hid fun W => rcut_c key gone rk rn rs W ok1 ok4
        have hcx : cutR (key, gone, rk, rn, rs) = (str ((bl key).take 20), gone, rk, rn, str ((bl rs).take 30)) := rfl
        rw [hcx] at hsn
        clear hcx
        generalize (l.take k).map cutR = m at *
        generalize hk2 : str ((bl key).take 20) = key2 at *
        generalize hs2 : str ((bl rs).take 30) = s2 at *
        unfold recV at C1
        have Hsn := Go.Lib.hid hsn; clear hsn
        have Hix := Go.Lib.hid (run_idx5 b o l.length cap k hlt)
        clear ok1 ok4 hk2 hs2
        go_wp2_with fail
        refine (C1.out _).mono ?_
        rintro e w2 ⟨rfl, hc⟩
        have hown2 := OwnRec.below (hown.below hc) (below_one w2 (.cells #[.string key2, .bool gone, .int .i64 rk, .int .i64 rn, .string s2] 39))
        have hbc2 := hbc.trans (hc.mono hbc.size)
        have hbc3 := hbc2.trans ((below_one w2 (.cells #[.string key2, .bool gone, .int .i64 rk, .int .i64 rn, .string s2] 39)).mono hbc2.size)
        have hone := RS.one w2 (key2, gone, rk, rn, s2)
        simp only [] at hone
        have hbs := hbc3.size
        clear hc hown hbc c0 c1 c2 c3 c4 Hix C1 hbc2
        go_wp2_with (first
          | (with_reducible show wpList _ _ _ (⟨some 25, _, _, _, _, _⟩ :: _) _ _; go_loud (refine wpList_append_recs rfl (.tmp 18) (.tmp 24) rfl w.heap.size u5 (.slice (some ⟨w2.heap.size, 0, none⟩) 1 1) m [(key2, gone, rk, rn, s2)] rfl rfl hown2 hone (by simp; omega) hbs ?_); intro v4 w4 hown4 hg4; have hbc4 := hbc3.grown hg4 hbs hown2.row)
          | fail)
        rw [← Hsn.out] at hown4
        exact ⟨⟨k + 1, by omega, by omega, by go_num, hown4, hbc4⟩, by simp only [intOf]; omega⟩
      · obtain rfl : k = n := by omega
        go_wp2_with fail
        go_ret
        exact ⟨_, rfl, hown, hbc⟩
    · obtain rfl : k = l.length := by omega
      rw [List.take_of_length_le (Nat.le_refl _)] at hown
      have he : Hid (l.map cutR = (l.take n).map cutR) := by unfold Hid; rw [List.take_of_length_le hkn]
      rw [he.out] at hown
      go_wp2_with fail
      go_ret
      exact ⟨_, rfl, hown, hbc⟩

end Go.Proofs.Ytibbligidncocaa

namespace Go.Proofs.Ytibbligidncocaa
open Go.RowKit

def keepX (x : RecT) : Bool := !x.2.1 && mayX x
def keepL (l : List RecT) : List RecT := l.filter keepX
theorem keepL_snoc (l : List RecT) (x : RecT) : keepL (l ++ [x]) = if keepX x then keepL l ++ [x] else keepL l := by
  unfold keepL
  rw [List.filter_append]
  cases h : keepX x <;> simp [h]
/-- What Pairs answers. -/
def PairsTo (v : Value) (l : List RecT) (w w' : World) : Prop := ∃ P : List RecT, K4.O w' w.heap.size v P ∧ SortK kf P ∧ (∀ x ∈ P, x.2.1 = false ∧ mayX x = true) ∧ (∀ x, x ∈ P ↔ x ∈ firstsK kf (keepL l)) ∧ Below w.heap.size w w'

set_option maxHeartbeats 2000000 in
set_option maxRecDepth 100000 in
theorem lpairs_c (v : Value) (l : List RecT) (w : World) (h : RRec w v l) :
    Calls Try.prog 11 #[v] w fun e w' => ∃ v', e = .returned v' ∧ PairsTo v' ((l.take 30).map cutR) w w' := by
  have CR := Go.Lib.hid (recs_c v l 30 w h (by decide))
  obtain ⟨a, cap, rfl, hm⟩ := h.rs.form
  obtain ⟨L, hL⟩ : ∃ L, L = (l.take 30).map cutR := ⟨_, rfl⟩
  have hLl : L.length ≤ 30 := by rw [hL, List.length_map, List.length_take]; omega
  have hLs : Hid (∀ x ∈ L, x.1.size ≤ 1000 ∧ x.2.2.2.2.size ≤ 1000) := Go.Lib.hid fun x hx => by
    rw [hL] at hx
    have := cut_sizes hx
    omega
  rw [← hL] at CR ⊢
  clear h hL
  go_enter Try.func11, Try.ntmps11
  go_wp2_with fail
  refine CR.out.mono ?_
  rintro e w1 ⟨v1, rfl, ho1, hb1⟩
  obtain ⟨a1, c1, rfl, -⟩ := ho1.rs.form
  have HR := Go.Lib.hid ho1.rs
  have HB1 := Go.Lib.hid hb1
  clear ho1 hb1 CR
  go_wp2_with fail
  go_loopw [3, 4] (fun ov i' wr => ∃ (k : Nat) (u : Value), u = ov ∧ i' = .int .i64 (k : Int) ∧ k ≤ L.length ∧ OwnRec wr w1.heap.size u (keepL (L.take k)) ∧ Below w1.heap.size w1 wr) (fun _ i' _ => L.length - (intOf i').toNat)
  case atStart => exact ⟨0, _, rfl, rfl, by omega, OwnRec.nil _ _, Below.refl _ _⟩
  case round =>
    obtain ⟨k, u, rfl, rfl, hk, hO, hb⟩ := hrel
    by_cases hlt : k < L.length
    · obtain ⟨b, os, rfl, -, hbl, d0, d1, d2, d3, d4⟩ := HR.out.at k hlt
      have e0 := (hb.cell (p := ⟨b, os + k * 5, none⟩) hbl).trans d0
      have e1 := (hb.cell (p := ⟨b, os + k * 5 + 1, none⟩) hbl).trans d1
      have e2 := (hb.cell (p := ⟨b, os + k * 5 + 2, none⟩) hbl).trans d2
      have e3 := (hb.cell (p := ⟨b, os + k * 5 + 3, none⟩) hbl).trans d3
      have e4 := (hb.cell (p := ⟨b, os + k * 5 + 4, none⟩) hbl).trans d4
      have i5 := run_idx5 b os L.length c1 k hlt
      have hsn := keepL_snoc (L.take k) L[k]
      rw [← List.take_succ_eq_append_getElem hlt] at hsn
      have hsz := hLs.out L[k] (List.getElem_mem hlt)
      have hml : (keepL (L.take k)).length ≤ 30 := Nat.le_trans (List.length_filter_le _ _) (by rw [List.length_take]; omega)
      generalize L[k] = x at *
      obtain ⟨kx, gx, ax, nx, sx⟩ := x
      unfold keepX mayX at hsn
      simp only [] at e0 e1 e2 e3 e4 hsn hsz
      have CM := fun W => rmay_c kx W (by unfold maxLen; omega)
      have CV := fun W => mayval_c ax nx sx W (by unfold maxLen; omega)
      unfold rawV at CV
      obtain ⟨mk, hmk⟩ : ∃ mk, mayK kx = mk := ⟨_, rfl⟩
      obtain ⟨mv, hmv⟩ : ∃ mv, mayR ax nx sx = mv := ⟨_, rfl⟩
      rw [hmk] at CM hsn
      rw [hmv] at CV hsn
      have Hsn := Go.Lib.hid hsn
      generalize keepL (L.take k) = m at *
      obtain ⟨au, nu, cu, rfl⟩ : ∃ a n c, u = .slice a n c := by
        obtain ⟨a, cap, rfl, -⟩ := hO.rs.form
        exact ⟨_, _, _, rfl⟩
      have HO := Go.Lib.hid hO
      have CM := Go.Lib.hid CM
      have CV := Go.Lib.hid CV
      clear d0 d1 d2 d3 d4 hsn hsz hmk hmv hO
      cases gx with
      | true =>
        have HO2 : Hid (OwnRec wr w1.heap.size (.slice au nu cu) (keepL (L.take (k + 1)))) := Go.Lib.hid (by rw [Hsn.out]; exact HO.out)
        clear Hsn HO CM CV
        go_wp2_with fail
        go_roundw
        case rel => exact ⟨k + 1, _, rfl, by go_num, by omega, HO2.out, hb⟩
        case measure => simp only [intOf]; omega
      | false =>
        cases mk with
        | false =>
          have HO2 : Hid (OwnRec wr w1.heap.size (.slice au nu cu) (keepL (L.take (k + 1)))) := Go.Lib.hid (by rw [Hsn.out]; exact HO.out)
          clear Hsn HO CV
          go_wp2_with fail
          refine (CM.out _).mono ?_
          rintro e w2 ⟨rfl, rfl⟩
          go_wp2_with fail
          go_roundw
          case rel => exact ⟨k + 1, _, rfl, by go_num, by omega, HO2.out, hb⟩
          case measure => simp only [intOf]; omega
        | true =>
          cases mv with
          | false =>
            go_wp2_with fail
            refine (CM.out _).mono ?_
            rintro e w2 ⟨rfl, rfl⟩
            go_wp2_with fail
            refine (CV.out _).mono ?_
            rintro e w2 ⟨rfl, hb2⟩
            have HO2 : Hid (OwnRec w2 w1.heap.size (.slice au nu cu) (keepL (L.take (k + 1)))) := Go.Lib.hid (by rw [Hsn.out]; exact HO.out.below hb2)
            have hb3 := hb.trans (hb2.mono hb.size)
            clear Hsn HO hb hb2 CM CV
            go_wp2_with fail
            go_roundw
            case rel => exact ⟨k + 1, _, rfl, by go_num, by omega, HO2.out, hb3⟩
            case measure => simp only [intOf]; omega
          | true =>
            have Hsn2 : Hid (keepL (L.take (k + 1)) = m ++ [(kx, false, ax, nx, sx)]) := Hsn
            have hml6 : Hid (m.length + [((kx, false, ax, nx, sx) : RecT)].length ≤ 1000000) := Go.Lib.hid (by simp only [List.length_cons, List.length_nil]; omega)
            go_wp2_with fail
            refine (CM.out _).mono ?_
            rintro e w2 ⟨rfl, rfl⟩
            go_wp2_with fail
            refine (CV.out _).mono ?_
            rintro e w2 ⟨rfl, hb2⟩
            have hbl2 : b < wr.heap.size := Nat.lt_of_lt_of_le hbl hb.size
            have e0 := (hb2.cell (p := ⟨b, os + k * 5, none⟩) hbl2).trans e0
            have e1 := (hb2.cell (p := ⟨b, os + k * 5 + 1, none⟩) hbl2).trans e1
            have e2 := (hb2.cell (p := ⟨b, os + k * 5 + 2, none⟩) hbl2).trans e2
            have e3 := (hb2.cell (p := ⟨b, os + k * 5 + 3, none⟩) hbl2).trans e3
            have e4 := (hb2.cell (p := ⟨b, os + k * 5 + 4, none⟩) hbl2).trans e4
            have hb3 := hb.trans (hb2.mono hb.size)
            have hone : Hid (RS (w2.alloc (.cells #[.string kx, .bool false, .int .i64 ax, .int .i64 nx, .string sx] 39)) (.slice (some ⟨w2.heap.size, 0, none⟩) 1 1) [(kx, false, ax, nx, sx)]) := Go.Lib.hid (RS.one w2 (kx, false, ax, nx, sx))
            have hOa := Go.Lib.hid ((HO.out.below hb2).below (below_one w2 (.cells #[.string kx, .bool false, .int .i64 ax, .int .i64 nx, .string sx] 39)))
            have hbA := Go.Lib.hid (hb3.alloc hb3.size (.cells #[.string kx, .bool false, .int .i64 ax, .int .i64 nx, .string sx] 39))
            have hsz := hbA.out.size
            clear Hsn HO hb hb2 hb3 CM CV
            go_wp2_with (first
              | (with_reducible show wpList _ _ _ (⟨some 41, _, _, _, _, _⟩ :: _) _ _; go_must (refine wpList_append_recs rfl (.tmp 35) (.tmp 40) rfl w1.heap.size (.slice au nu cu) (.slice (some ⟨w2.heap.size, 0, none⟩) 1 1) m [(kx, false, ax, nx, sx)] rfl rfl hOa.out hone.out hml6.out hsz ?_); go_must (intro v4 w4 ho4 hg4; have HB4 := Go.Lib.hid (hbA.out.grown hg4 hsz hOa.out.row); have HO4 := Go.Lib.hid ho4; clear hg4 ho4 hOa hone hbA))
              | fail)
            go_roundw
            case rel => exact ⟨k + 1, _, rfl, by go_num, by omega, by rw [Hsn2.out]; exact HO4.out, HB4.out⟩
            case measure => simp only [intOf]; omega
    · obtain rfl : k = L.length := by omega
      rw [List.take_length] at hO
      have hkm : (keepL L).length ≤ 30 := Nat.le_trans (List.length_filter_le _ _) hLl
      have hks : Hid (∀ x ∈ keepL L, x.1.size ≤ 1000 ∧ keepX x = true) := Go.Lib.hid fun x hx => ⟨(hLs.out x (List.mem_filter.1 hx).1).1, (List.mem_filter.1 hx).2⟩
      obtain ⟨M, hM⟩ : ∃ M, M = keepL L := ⟨_, rfl⟩
      rw [← hM] at hO hkm hks
      have HM := Go.Lib.hid hM
      have HRM := hO.rs
      obtain ⟨am, cm, rfl, -⟩ := HRM.form
      have hbw := HB1.out.trans (hb.mono HB1.out.size)
      have hal := below_one wr (.cells #[.slice am M.length cm] 22)
      have CI := Go.Lib.hid (rinorder_c (.slice (some ⟨wr.heap.size, 0, none⟩) 1 1) [(.slice am M.length cm, M)] (wr.alloc (.cells #[.slice am M.length cm] 22)) ⟨RV.one wr 22 (.slice am M.length cm), fun p hp => by rw [List.mem_singleton.1 hp]; exact HRM.below hal⟩ (fun p hp => by
        rw [List.mem_singleton.1 hp]
        intro x hx
        have := (hks.out x hx).1
        omega) (by simp; omega))
      have HBW := Go.Lib.hid (hbw.trans (hal.mono hbw.size))
      have hfm : ([((.slice am M.length cm : Value), M)].flatMap (·.2)) = M := by simp
      rw [hfm] at CI
      clear hO hM HRM hbw hal hb hfm HR HB1 hLs
      go_wp2_with fail
      refine CI.out.mono ?_
      rintro e w2 ⟨v2, rfl, ⟨S, hoS, hSs, hSm, hsl⟩, hb2⟩
      have HSS := Go.Lib.hid hSs
      have HSM := Go.Lib.hid hSm
      have hsl : S.length ≤ 100000 := by omega
      have hbb := HBW.out.trans (hb2.mono HBW.out.size)
      have CP := Go.Lib.hid (rpairs_c v2 S w2 hoS.rs hsl)
      have HBB := Go.Lib.hid hbb
      clear hoS hSs hSm hb2 hsl hbb CI HBW
      go_wp2_with fail
      refine CP.out.mono ?_
      rintro e w3 ⟨v3, rfl, ho3, hb3⟩
      have hx : Hid (∀ x ∈ S, x.2.1 = false ∧ mayX x = true) := Go.Lib.hid fun x hx => by
        have h1 := (firstsK_facts kf M).2.1 x ((HSM.out x).1 hx)
        have h2 := (hks.out x h1).2
        unfold keepX at h2
        rw [Bool.and_eq_true, Bool.not_eq_true'] at h2
        exact h2
      have hlive : liveK S = S := by
        unfold liveK
        rw [List.filter_eq_self]
        intro x h
        rw [(hx.out x h).1]
        rfl
      rw [hlive] at ho3
      have HFin : Hid (PairsTo v3 L w w3) := Go.Lib.hid ⟨S, ho3.mono HBB.out.size, HSS.out, hx.out, fun x => by rw [← HM.out]; exact HSM.out x, HBB.out.trans (hb3.mono HBB.out.size)⟩
      clear ho3 hb3 hlive
      go_wp2_with fail
      go_ret
      exact ⟨_, rfl, HFin.out⟩

end Go.Proofs.Ytibbligidncocaa
