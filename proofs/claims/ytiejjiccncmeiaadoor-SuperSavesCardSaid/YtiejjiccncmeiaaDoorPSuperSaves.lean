/- SuperSaves: whatever is saved one behind the other is there again, with its turn: for every input the law returns true. -/
import Derived.Test.YtiejjiccncmeiaaDoorCards
import Derived.Test.YtiejjiccncmeiaaDoorTie
import Derived.WalkKit
import Derived.ProofKit
import Derived.OpenShut
import Derived.ShutString
import Derived.ChangeOld
import Derived.Below
import Derived.Test.YtiejjiccncmeiaaDoorLists
import Derived.Test.YtiejjiccncmeiaaDoorBegun12
import Derived.Test.YtiejjiccncmeiaaDoorShort
import Derived.Test.YtiejjiccncmeiaaDoorLists
import Derived.Deep.DeepHandedRow
import Derived.SevenTiedAt
import Derived.LaidMore
import Derived.Stop.Joined
namespace Go.Proofs.YtiejjiccncmeiaaDoor.superSaves
open Go.ChangeShapes Go.WideShapes Go.ChangeAt Go.RowKit
open Go.ChangeMaps (open_string shut_string)
set_option linter.unusedVariables false

theorem own : ownKnob Tryd.prog.godebug = none := by kernel_rfl
theorem laidOut : laidOutB Tryd.prog = true := by kernel_rfl

theorem tab_of {w : World} (L : laidMetH Tryd.prog Rows.superSavesRow.laid w) : Tab w := Tab.of (Lib.tabIs_of_head (rest := []) gNib (by kernel_rfl) Tryd.underlying73 Tryd.underlying70 (by kernel_rfl) (by kernel_rfl) L)

set_option maxHeartbeats 4000000 in
set_option maxRecDepth 100000 in
theorem walk (w : World) (L : laidMetH Tryd.prog Rows.superSavesRow.laid w) (a0 : Int) (w0 : (Lit.int .i64 a0).wf = true) (a1 : Int) (w1 : (Lit.int .i64 a1).wf = true) (a2 : Option Addr) (len2 cap2 : Nat) (l2 : List (Value × List UInt8)) (w2 : RLs w (.slice a2 len2 cap2) l2) :
    Calls Tryd.prog 3 #[.int .i64 a0, .int .i64 a1, .slice a2 len2 cap2] w fun e w' => e = .returned (.bool true) ∧ Below w.heap.size w w' := by
  have hT := tab_of L
  have hlen := w2.len.2
  have HL := Go.Lib.hid w2
  clear L w0 w2
  have HT := Go.Lib.hid hT; clear hT
  obtain ⟨n, hn⟩ : ∃ n : Nat, max 1 (min a0 8) = (n : Int) := ⟨(max 1 (min a0 8)).toNat, by omega⟩
  have hn1 : 1 ≤ n := by omega
  have hn8 : n ≤ 8 := by omega
  have C1 := fun w => Go.Lib.hid (snew_c (n : Int) w)
  rw [show lenD (n : Int) = n from by rw [lenD_of (by omega) (by omega)]; omega] at C1
  go_enter Tryd.func3, Tryd.ntmps3
  go_wp2_with fail
  refine (begun_c _ HT.out).mono ?_
  rintro e w1 ⟨rfl, hb1⟩
  have HB1 := Go.Lib.hid hb1
  clear hb1
  go_wp2_with fail
  have C1 := C1 w1
  refine C1.out.mono ?_
  rintro e w2 ⟨d, g, rfl, hd2, hb2⟩
  have hd2 := hd2.mono HB1.out.size
  have hb2 := HB1.out.trans (hb2.mono HB1.out.size)
  by_cases hout : a1 < 0 ∨ (n : Int) - 2 < a1
  · have C2 := Go.Lib.hid (smake_out hd2 a1 hout (RB.nil w2) (by decide))
    have HB2 := Go.Lib.hid hb2
    clear hd2 hb2 C1
    go_wp2_with fail
    refine C2.out.mono ?_
    rintro e w2' ⟨rfl, rfl⟩
    by_cases h0 : a1 < 0
    · go_wp2_with fail
      go_ret
      exact ⟨rfl, HB2.out⟩
    · have h2 : (n : Int) - 2 < a1 := by rcases hout with h | h; exact absurd h h0; exact h
      clear hout
      go_wp2_with fail
      go_ret
      exact ⟨rfl, HB2.out⟩
  obtain ⟨q, rfl⟩ : ∃ q : Nat, a1 = (q : Int) := ⟨a1.toNat, by omega⟩
  have hqn : q + 2 ≤ n := by omega
  have C2 := Go.Lib.hid (smade_c hd2 (fun _ _ => rfl) (Tidy.calm _) (by decide) (HT.out.below hb2) hqn rfl rfl (fun w' _ => RB.nil w') (by decide) HT.out.low)
  have Hat := Go.Lib.hid hqn
  have HD2 := Go.Lib.hid hd2
  have HB2 := Go.Lib.hid hb2
  have hqnI : (q : Int) ≤ (n : Int) - 2 := by omega
  clear hout hd2 hb2 C1 w1 hqn
  go_wp2_with fail
  refine C2.out.mono ?_
  rintro e w3 ⟨p, rfl, F3, hd3, hs3, hg3, ho3, hT3, -⟩
  have HD3 := Go.Lib.hid hd3
  have HS3 := Go.Lib.hid (hs3.mono HB2.out.size)
  have HG3 := Go.Lib.hid hg3
  have HB3 := Go.Lib.hid (HB2.out.trans (ho3.belowDV HD2.out (Nat.le_refl _) HB2.out.size))
  clear C2 hd3 hs3 hg3 ho3 hT3 HD2 HB2
  go_wp2_with fail
  go_loopw [11, 12, 13, 14, 15, 16, 17, 18, 19] (fun xv tv iv _ _ _ _ _ _ wr => ∃ (i t s k : Nat) (X : List UInt8) (tX : ByteArray) (F : Nat → List UInt8), i ≤ 12 ∧ i ≤ len2 ∧ iv = .int .i64 (i : Int) ∧ tv = .int .i64 (t : Int) ∧ xv = .string tX ∧ Hid (str X = tX) ∧ k ≤ 4 + 2 * i ∧ t ≤ 1 + i ∧ DV wr w.heap.size d g n (calmS F) (lifeN k) ∧ SU wr w.heap.size p d q ⟨s, X, t⟩ ∧ Good F q ⟨s, X, t⟩ ∧ Below w.heap.size w wr) (fun _ _ iv _ _ _ _ _ _ _ => 12 - (intOf iv).toNat)
  case atStart => exact ⟨0, 1, 0, 4, [], _, F3, by omega, by omega, rfl, rfl, rfl, rfl, by omega, by omega, HD3.out, HS3.out, HG3.out, HB3.out⟩
  case round =>
    obtain ⟨i, t, s, k, X, tX, F, hi12, hil, rfl, rfl, rfl, HtX, hk, ht, hdv, hsu, hg, hbw⟩ := hrel
    clear HD3 HS3 HG3 HB3
    by_cases hin : i < len2 ∧ i < 12
    · obtain ⟨hi2, hi⟩ := hin
      obtain ⟨b, o, u, x, rfl, hcu, hru⟩ := HL.out.get i hi2
      have hcu := (hbw.cell (p := ⟨b, o + i, none⟩) (World.block_lt_of_cell? w _ hcu)).trans hcu
      have C2 := Go.Lib.hid (short_w u x 45 wr (hru.below hbw) (by decide))
      have Hi := Go.Lib.hid hi
      have Hi2 := Go.Lib.hid hi2
      have HDr := Go.Lib.hid hdv
      have HSr := Go.Lib.hid hsu
      have HGr := Go.Lib.hid hg
      have HBr := Go.Lib.hid hbw
      have HK := Go.Lib.hid hk
      have Ht := Go.Lib.hid ht
      have hiI : (i : Int) < (len2 : Int) := by omega
      have htI : (t : Int) ≤ 13 := by omega
      have HRU := Go.Lib.hid hru
      clear hdv hsu hg hbw hk ht hil hi2 hi12 hru
      go_wp2_with fail
      refine C2.out.mono ?_
      rintro e w2 ⟨⟨v', rfl, hy⟩, rfl⟩
      obtain ⟨y, hyd⟩ : ∃ y, y = x.take 45 := ⟨_, rfl⟩
      rw [← hyd] at hy
      obtain ⟨ya, yc, rfl⟩ := (hy wr (HRU.out.below HBr.out)).slice
      have hyl : y.length ≤ 45 := by rw [hyd]; exact List.length_take_le _ _
      obtain ⟨m, hm⟩ : ∃ m, m = y.length := ⟨_, rfl⟩
      rw [← hm] at hy hyl ⊢
      have Hm := Go.Lib.hid hm
      have HY := Go.Lib.hid hy
      clear hyd hy hm C2
      by_cases h40 : m ≤ 40
      · have hm40 : (m : Int) ≤ 40 := by omega
        have C3 := Go.Lib.hid (ssave_c HDr.out (by have := HK.out; have := Hi.out; omega) HSr.out HGr.out (HT.out.below HBr.out) Hat.out (v0 := .slice ya m yc) (l := y) (fun w' ho => HY.out w' (HRU.out.keep HBr.out HDr.out (Nat.le_refl _) w' ho)) (by rw [← Hm.out]; exact h40) (show t ≤ 1000 by have := Ht.out; have := Hi.out; omega) HT.out.low)
        go_wp2_with fail
        refine C3.out.mono ?_
        rintro e w3 ⟨rfl, F3, hd3, hs3, hg3, ho3, hT3, -⟩
        have hb3 := HBr.out.trans (ho3.belowSU HDr.out HSr.out (Nat.le_refl _) (Nat.le_refl _) HBr.out.size)
        have hcv := run_string_RB w3 30 5 9 Tryd.underlying30 Tryd.underlying5 Tryd.underlying9 (.slice ya m yc) y (HY.out w3 (HRU.out.below hb3))
        obtain ⟨tY, htY⟩ : ∃ tY, tY = str y := ⟨_, rfl⟩
        rw [← htY] at hcv
        have HtX := Go.Lib.hid htY.symm
        have HD3 := Go.Lib.hid hd3
        have HS3 := Go.Lib.hid hs3
        have HG3 := Go.Lib.hid hg3
        have HB3 := Go.Lib.hid hb3
        obtain ⟨T, hTd⟩ : ∃ T : Int, T = (t : Int) + 1 := ⟨_, rfl⟩
        have hTw : IntKind.i64.wrap ((t : Int) + 1) = T := by rw [IntKind.wrap_i64]; omega
        have HTt : Hid (((t + 1 : Nat) : Int) = T) := Go.Lib.hid (by omega)
        have Hend : Hid (t + 1 ≤ 1 + (i + 1) ∧ k + 2 ≤ 4 + 2 * (i + 1)) := Go.Lib.hid (by have := HK.out; have := Ht.out; omega)
        clear hd3 hs3 hg3 ho3 hT3 hb3 htY hTd C3 HDr HSr HGr HBr HK Ht
        have C4 := Go.Lib.hid (sopen_c HD3.out (HT.out.below HB3.out) Hat.out HG3.out)
        go_wp2_with fail
        refine C4.out.mono ?_
        rintro e w4 ⟨p4, rfl, hs4, hb4⟩
        have HD4 := Go.Lib.hid (HD3.out.below hb4)
        have HS4 := Go.Lib.hid (HS3.out.below hb4)
        have HB4 := Go.Lib.hid (HB3.out.trans (hb4.mono HB3.out.size))
        have HP4 := Go.Lib.hid hs4
        have C5 := Go.Lib.hid (scrash_c HD4.out (.slice none 0 0) [] (rv_none _))
        clear hs4 hb4 C4 HD3 HS3 HB3
        go_wp2_with fail
        refine C5.out.mono ?_
        rintro e w5 ⟨d5, g5, rfl, hd5, hb5⟩
        have HD5 := Go.Lib.hid (HD4.out.below hb5)
        have HS5 := Go.Lib.hid (HS4.out.below hb5)
        have HB5 := Go.Lib.hid (HB4.out.trans (hb5.mono HB4.out.size))
        have HP5 := Go.Lib.hid (HP4.out.below hb5)
        have C6 := Go.Lib.hid (sopen_c hd5 (HT.out.below HB5.out) Hat.out HG3.out)
        clear hd5 hb5 C5 HD4 HS4 HB4 HP4
        go_wp2_with fail
        refine C6.out.mono ?_
        rintro e w6 ⟨p6, rfl, hs6, hb6⟩
        have HD6 := Go.Lib.hid (HD5.out.below hb6)
        have HS6 := Go.Lib.hid (HS5.out.below hb6)
        have HB6 := Go.Lib.hid (HB5.out.trans (hb6.mono HB5.out.size))
        have HP6 := Go.Lib.hid (HP5.out.below hb6)
        have HQ6 := Go.Lib.hid hs6
        have C7 := Go.Lib.hid (stext_q HP6.out _ rfl)
        clear hs6 hb6 C6 HD5 HS5 HB5 HP5
        go_wp2_with fail
        refine C7.out.mono ?_
        rintro e w7 ⟨v7, rfl, hr7, hb7⟩
        have hcv7 := run_string_RB w7 30 5 9 Tryd.underlying30 Tryd.underlying5 Tryd.underlying9 v7 _ hr7
        rw [HtX.out] at hcv7
        have HD7 := Go.Lib.hid (HD6.out.below hb7)
        have HS7 := Go.Lib.hid (HS6.out.below hb7)
        have HB7 := Go.Lib.hid (HB6.out.trans (hb7.mono HB6.out.size))
        have HQ7 := Go.Lib.hid (HQ6.out.below hb7)
        have C8 := Go.Lib.hid (sturn_q (HP6.out.below hb7) T HTt.out)
        clear hr7 hb7 C7 HD6 HS6 HB6 HP6 HQ6
        go_wp2_with fail
        clear hcv7
        refine C8.out.mono ?_
        rintro e w8 ⟨rfl, hb8⟩
        have HD8 := Go.Lib.hid (HD7.out.below hb8)
        have HS8 := Go.Lib.hid (HS7.out.below hb8)
        have HB8 := Go.Lib.hid (HB7.out.trans (hb8.mono HB7.out.size))
        have C9 := Go.Lib.hid (stext_q (HQ7.out.below hb8) _ rfl)
        clear hb8 C8 HD7 HS7 HB7 HQ7
        go_wp2_with fail
        refine C9.out.mono ?_
        rintro e w9 ⟨v9, rfl, hr9, hb9⟩
        have hcv9 := run_string_RB w9 30 5 9 Tryd.underlying30 Tryd.underlying5 Tryd.underlying9 v9 _ hr9
        rw [HtX.out] at hcv9
        have HD9 := Go.Lib.hid (HD8.out.below hb9)
        have HS9 := Go.Lib.hid (HS8.out.below hb9)
        have HB9 := Go.Lib.hid (HB8.out.trans (hb9.mono HB8.out.size))
        have Ca := Go.Lib.hid (stext_q HS9.out _ rfl)
        clear hr9 hb9 C9 HD8 HS8 HB8
        go_wp2_with fail
        clear hcv9
        refine Ca.out.mono ?_
        rintro e wa ⟨va, rfl, hra, hba⟩
        have hcva := run_string_RB wa 30 5 9 Tryd.underlying30 Tryd.underlying5 Tryd.underlying9 va _ hra
        rw [HtX.out] at hcva
        have HDa := Go.Lib.hid (HD9.out.below hba)
        have HSa := Go.Lib.hid (HS9.out.below hba)
        have HBa := Go.Lib.hid (HB9.out.trans (hba.mono HB9.out.size))
        have Cb := Go.Lib.hid (sturn_q HSa.out T HTt.out)
        clear hra hba Ca HD9 HS9 HB9
        go_wp2_with fail
        clear hcva
        refine Cb.out.mono ?_
        rintro e wb ⟨rfl, hbb⟩
        have HDb := Go.Lib.hid (HDa.out.below hbb)
        have HSb := Go.Lib.hid (HSa.out.below hbb)
        have HBb := Go.Lib.hid (HBa.out.trans (hbb.mono HBa.out.size))
        clear hbb Cb HDa HSa HBa
        go_wp2_with fail
        go_roundw
        case rel => exact ⟨i + 1, _, _, _, _, _, _, by have := Hi.out; omega, by have := Hi2.out; omega, by go_num, by rw [HTt.out], rfl, HtX, Hend.out.2, Hend.out.1, HDb.out, HSb.out, HG3.out, HBb.out⟩
        case measure => have := Hi.out; simp [intOf]; omega
      · have hm40 : (40 : Int) < (m : Int) := by omega
        have C3 := Go.Lib.hid (ssave_long (p := p) (v0 := .slice ya m yc) (l := y) (HY.out wr (HRU.out.below HBr.out)) (by rw [← Hm.out]; omega))
        go_wp2_with fail
        refine C3.out.mono ?_
        rintro e w3 ⟨rfl, rfl⟩
        have HD3 := HDr
        have HS3 := HSr
        have HG3 := HGr
        have HB3 := HBr
        obtain ⟨T, hTd⟩ : ∃ T : Int, T = (t : Int) := ⟨_, rfl⟩
        have HTt : Hid (((t : Nat) : Int) = T) := Go.Lib.hid hTd.symm
        have Hend : Hid (t ≤ 1 + (i + 1) ∧ k ≤ 4 + 2 * (i + 1)) := Go.Lib.hid (by have := HK.out; have := Ht.out; omega)
        rw [← hTd]
        clear hTd C3 HDr HSr HGr HBr HK Ht
        have C4 := Go.Lib.hid (sopen_c HD3.out (HT.out.below HB3.out) Hat.out HG3.out)
        go_wp2_with fail
        refine C4.out.mono ?_
        rintro e w4 ⟨p4, rfl, hs4, hb4⟩
        have HD4 := Go.Lib.hid (HD3.out.below hb4)
        have HS4 := Go.Lib.hid (HS3.out.below hb4)
        have HB4 := Go.Lib.hid (HB3.out.trans (hb4.mono HB3.out.size))
        have HP4 := Go.Lib.hid hs4
        have C5 := Go.Lib.hid (scrash_c HD4.out (.slice none 0 0) [] (rv_none _))
        clear hs4 hb4 C4 HD3 HS3 HB3
        go_wp2_with fail
        refine C5.out.mono ?_
        rintro e w5 ⟨d5, g5, rfl, hd5, hb5⟩
        have HD5 := Go.Lib.hid (HD4.out.below hb5)
        have HS5 := Go.Lib.hid (HS4.out.below hb5)
        have HB5 := Go.Lib.hid (HB4.out.trans (hb5.mono HB4.out.size))
        have HP5 := Go.Lib.hid (HP4.out.below hb5)
        have C6 := Go.Lib.hid (sopen_c hd5 (HT.out.below HB5.out) Hat.out HG3.out)
        clear hd5 hb5 C5 HD4 HS4 HB4 HP4
        go_wp2_with fail
        refine C6.out.mono ?_
        rintro e w6 ⟨p6, rfl, hs6, hb6⟩
        have HD6 := Go.Lib.hid (HD5.out.below hb6)
        have HS6 := Go.Lib.hid (HS5.out.below hb6)
        have HB6 := Go.Lib.hid (HB5.out.trans (hb6.mono HB5.out.size))
        have HP6 := Go.Lib.hid (HP5.out.below hb6)
        have HQ6 := Go.Lib.hid hs6
        have C7 := Go.Lib.hid (stext_q HP6.out _ rfl)
        clear hs6 hb6 C6 HD5 HS5 HB5 HP5
        go_wp2_with fail
        refine C7.out.mono ?_
        rintro e w7 ⟨v7, rfl, hr7, hb7⟩
        have hcv7 := run_string_RB w7 30 5 9 Tryd.underlying30 Tryd.underlying5 Tryd.underlying9 v7 _ hr7
        rw [HtX.out] at hcv7
        have HD7 := Go.Lib.hid (HD6.out.below hb7)
        have HS7 := Go.Lib.hid (HS6.out.below hb7)
        have HB7 := Go.Lib.hid (HB6.out.trans (hb7.mono HB6.out.size))
        have HQ7 := Go.Lib.hid (HQ6.out.below hb7)
        have C8 := Go.Lib.hid (sturn_q (HP6.out.below hb7) T HTt.out)
        clear hr7 hb7 C7 HD6 HS6 HB6 HP6 HQ6
        go_wp2_with fail
        clear hcv7
        refine C8.out.mono ?_
        rintro e w8 ⟨rfl, hb8⟩
        have HD8 := Go.Lib.hid (HD7.out.below hb8)
        have HS8 := Go.Lib.hid (HS7.out.below hb8)
        have HB8 := Go.Lib.hid (HB7.out.trans (hb8.mono HB7.out.size))
        have C9 := Go.Lib.hid (stext_q (HQ7.out.below hb8) _ rfl)
        clear hb8 C8 HD7 HS7 HB7 HQ7
        go_wp2_with fail
        refine C9.out.mono ?_
        rintro e w9 ⟨v9, rfl, hr9, hb9⟩
        have hcv9 := run_string_RB w9 30 5 9 Tryd.underlying30 Tryd.underlying5 Tryd.underlying9 v9 _ hr9
        rw [HtX.out] at hcv9
        have HD9 := Go.Lib.hid (HD8.out.below hb9)
        have HS9 := Go.Lib.hid (HS8.out.below hb9)
        have HB9 := Go.Lib.hid (HB8.out.trans (hb9.mono HB8.out.size))
        have Ca := Go.Lib.hid (stext_q HS9.out _ rfl)
        clear hr9 hb9 C9 HD8 HS8 HB8
        go_wp2_with fail
        clear hcv9
        refine Ca.out.mono ?_
        rintro e wa ⟨va, rfl, hra, hba⟩
        have hcva := run_string_RB wa 30 5 9 Tryd.underlying30 Tryd.underlying5 Tryd.underlying9 va _ hra
        rw [HtX.out] at hcva
        have HDa := Go.Lib.hid (HD9.out.below hba)
        have HSa := Go.Lib.hid (HS9.out.below hba)
        have HBa := Go.Lib.hid (HB9.out.trans (hba.mono HB9.out.size))
        have Cb := Go.Lib.hid (sturn_q HSa.out T HTt.out)
        clear hra hba Ca HD9 HS9 HB9
        go_wp2_with fail
        clear hcva
        refine Cb.out.mono ?_
        rintro e wb ⟨rfl, hbb⟩
        have HDb := Go.Lib.hid (HDa.out.below hbb)
        have HSb := Go.Lib.hid (HSa.out.below hbb)
        have HBb := Go.Lib.hid (HBa.out.trans (hbb.mono HBa.out.size))
        clear hbb Cb HDa HSa HBa
        go_wp2_with fail
        go_roundw
        case rel => exact ⟨i + 1, _, _, _, _, _, _, by have := Hi.out; omega, by have := Hi2.out; omega, by go_num, by rw [HTt.out], rfl, HtX, Hend.out.2, Hend.out.1, HDb.out, HSb.out, HG3.out, HBb.out⟩
        case measure => have := Hi.out; simp [intOf]; omega
    · have C2 := Go.Lib.hid (dloose_c hdv)
      rw [lf_calm] at C2
      have HBW := Go.Lib.hid hbw
      have hnin : ¬ ((i : Int) < (len2 : Int) ∧ (i : Int) < 12) := by omega
      clear hdv hsu hg hbw hin hk ht hil hi12
      by_cases hi2 : (i : Int) < (len2 : Int)
      · have hi : ¬ (i : Int) < 12 := fun h => hnin ⟨hi2, h⟩
        clear hnin
        go_wp2_with fail
        refine C2.out.mono ?_
        rintro e w4 ⟨v4, rfl, ho4, hb4⟩
        obtain ⟨a4, c4, rfl, -⟩ := ho4.rv.form
        have HB4 := Go.Lib.hid (HBW.out.trans (hb4.mono HBW.out.size))
        clear ho4 hb4
        rw [show (zi .i64 []).length = 0 from rfl]
        go_wp2_with fail
        go_ret
        exact ⟨rfl, HB4.out⟩
      · clear hnin
        go_wp2_with fail
        refine C2.out.mono ?_
        rintro e w4 ⟨v4, rfl, ho4, hb4⟩
        obtain ⟨a4, c4, rfl, -⟩ := ho4.rv.form
        have HB4 := Go.Lib.hid (HBW.out.trans (hb4.mono HBW.out.size))
        clear ho4 hb4
        rw [show (zi .i64 []).length = 0 from rfl]
        go_wp2_with fail
        go_ret
        exact ⟨rfl, HB4.out⟩

/-! ### THE ROW -/
noncomputable def laidWorld (os : Os) : World := World.doorLaid Tryd.prog 400 os
theorem laid_met (os : Os) : laidMetH Tryd.prog Rows.superSavesRow.laid ((laidWorld os).forCall (fun _ _ => 0) ⟨#[], #[.int .i64 0, .int .i64 0, .slice none 0 0], []⟩).memory :=
  laidMetH_of_parts3 (fuel := 8) (laidMet_of_run' 8 (by kernel_rfl) (by kernel_rfl)) (by kernel_rfl) (by kernel_rfl)
theorem reads (os : Os) {H : Type} (enc : TypeId × Value → H) : ∃ places, DataW.whole enc Tryd.prog ((laidWorld os).forCall (fun _ _ => 0) ⟨#[], #[.int .i64 0, .int .i64 0, .slice none 0 0], []⟩).memory Tryd.f3.params.toList Rows.superSavesSpec.vars false (Array.toList #[.int .i64 0, .int .i64 0, .slice none 0 0]) 8 = some ([.lit (.int .i64 0), .lit (.int .i64 0), .nil], [], places) :=
  ⟨[], by kernel_rfl⟩

set_option maxRecDepth 100000 in
theorem lifted (os : Os) (started : os.Started) (H : Type) (enc : TypeId × Value → H) (F : Stop.Interp) :
    ReturnsInHanded {} Tryd.checked os 3 .any ((OpenSpec.ofChange Rows.superSavesSpec).preRow enc Tryd.prog Tryd.f3 Rows.superSavesRow.domain false Rows.superSavesRow.laid) (((OpenSpec.ofChange Rows.superSavesSpec).at F).post enc Tryd.prog Tryd.f3 false true false false) := by
  obtain ⟨places, hx⟩ := reads os enc
  refine returnsInHanded_of_row (C := Tryd.checked) (s := OpenSpec.ofChange Rows.superSavesSpec) own started (by kernel_rfl) Tryd.func3
    (witness_row_at (enc := enc) (C := Tryd.checked) false (laidWorld os) #[.int .i64 0, .int .i64 0, .slice none 0 0] rfl (by kernel_rfl) (by kernel_rfl) (by kernel_rfl)
      (OpenSpec.preRow_of_cond 8 hx (by kernel_rfl) (fun k hk => by cases hk) (by kernel_rfl) (laid_met os))) ?_
  intro W base args ds gs before hval0 hW _ _ _ hL _ _
  have hval : ∀ (j : Nat) t v, Tryd.f3.params[j]? = some t → args[j]? = some v → Value.okWide Tryd.prog W .any base t v := hval0
  have hW' := hW
  obtain ⟨p, q, hA0, hV, rfl, hfz, hnd⟩ := hW
  have hA : DataW.TrodAll enc Tryd.prog W 0 (fun _ => true) true Tryd.f3.params.toList args.toList ds p := hA0
  rw [Tryd.params3] at hA hval
  obtain ⟨v0, vs0, d0, ds0, p0, q0, hargs, rfl, rfl, h0, r0⟩ := trodAll_cons hA
  obtain ⟨v1, vs1, d1, ds1, p1, q1, rfl, rfl, rfl, h1, r1⟩ := trodAll_cons r0
  obtain ⟨v2, vs2, d2, ds2, p2, q2, rfl, rfl, rfl, h2, r2⟩ := trodAll_cons r1
  obtain ⟨rfl, rfl, rfl⟩ := trodAll_nil r2
  obtain rfl : args = #[v0, v1, v2] := by cases args; simp_all
  obtain ⟨rfl, rfl⟩ := trodVars_none hV
  have kk0 := h0
  have lt0 : ∀ x ∈ p0, x.block < W.heap.size := by obtain ⟨m, hm⟩ := kk0; exact DataW.trod_lt m _ _ _ hm
  have kk1 := h1
  have lt1 : ∀ x ∈ p1, x.block < W.heap.size := by obtain ⟨m, hm⟩ := kk1; exact DataW.trod_lt m _ _ _ hm
  have kk2 := h2
  have lt2 : ∀ x ∈ p2, x.block < W.heap.size := by obtain ⟨m, hm⟩ := kk2; exact DataW.trod_lt m _ _ _ hm
  obtain ⟨a0, rfl, rfl, rfl, w0⟩ := open_int Tryd.underlying3 (hval 0 3 v0 rfl rfl) h0
  obtain ⟨a1, rfl, rfl, rfl, w1⟩ := open_int Tryd.underlying3 (hval 1 3 v1 rfl rfl) h1
  obtain ⟨a2, len2, cap2, rfl⟩ := okWide_slice Tryd.underlying22 (hval 2 22 v2 rfl rfl)
  obtain ⟨l2, w2⟩ := open_lists h2
  clear hA0 hval0
  refine (walk W hL a0 w0 a1 w1 a2 len2 cap2 l2 w2).mono fun e W' ⟨he, bel⟩ => ?_
  subst he
  exact ⟨_, rfl, _, _, _, [], _, [], hW', trodAll_mk1 (shut_bool Tryd.underlying4 _), (trodAll_cons_mk (Below.trod laidOut (by kernel_rfl) (of_decide_eq_true (by kernel_rfl)) kk0 bel lt0) (trodAll_cons_mk (Below.trod laidOut (by kernel_rfl) (of_decide_eq_true (by kernel_rfl)) kk1 bel lt1) (trodAll_cons_mk (Below.trod laidOut (by kernel_rfl) (of_decide_eq_true (by kernel_rfl)) kk2 bel lt2) trodAll_mk0))), rfl, bel.frame _, fun h => by cases h⟩

theorem said : Rows.SuperSavesSaid :=
  OpenClaim.holds_of_cond 3 Tryd.f3 rfl rfl rfl rfl rfl rfl rfl ⟨rfl, rfl, rfl, rfl, rfl⟩ rfl rfl rfl rfl rfl (by kernel_rfl) Tryd.func3 (by kernel_rfl)
    (of_decide_eq_true (by kernel_rfl)) (by unfold Func.isWrapper; first | (rw [if_pos (by decide +kernel)]; kernel_rfl) | (rw [if_neg (by decide +kernel)]; exact ⟨rfl, rfl⟩))
    (fun os started H enc _ F => by rw [OpenClaim.pre_eq_preRow]; exact lifted os started H enc F)

/-- No parameter wants a stand-in; the program's own looks are off: what the card asks. -/
theorem plain (f : FuncId) (fn : Func) (hf : Tryd.pinned.checked.prog.funcNamed "loess/loesslaw12.SuperSaves" = some f) (hfn : Tryd.pinned.checked.prog.funcs[f]? = some fn) :
    false = Tryd.pinned.checked.prog.looks [] ∧ ∀ (j : Nat) t, fn.params[j]? = some t → Tryd.pinned.checked.prog.wantsStandIn t = false := by
  obtain rfl : f = 3 := Option.some.inj ((show Tryd.prog.funcNamed "loess/loesslaw12.SuperSaves" = some 3 by kernel_rfl).symm.trans hf) |>.symm
  obtain rfl : fn = Tryd.f3 := (Option.some.inj (Tryd.func3.symm.trans hfn)).symm
  refine ⟨by kernel_rfl, fun j t ht => ?_⟩
  rw [Tryd.params3] at ht
  have hm : t ∈ [3, 3, 22] := by simpa using Array.mem_of_getElem? ht
  have hall : ([3, 3, 22].all fun u => !Tryd.prog.wantsStandIn u) = true := by kernel_rfl
  exact (show Tryd.prog.wantsStandIn t = false by simpa using List.all_eq_true.1 hall t hm)

/-- THE CARD. -/
theorem proved : Rows.SuperSavesCardSaid :=
  Claim7.holds_tied_plain_at .later [] _ _ _ _ said (fun _ h => by cases h) (by kernel_rfl) (fun _ h => by cases h) superSaves_row_tie rfl ⟨rfl, rfl⟩ (by kernel_rfl) rfl plain (by kernel_rfl)
end Go.Proofs.YtiejjiccncmeiaaDoor.superSaves
