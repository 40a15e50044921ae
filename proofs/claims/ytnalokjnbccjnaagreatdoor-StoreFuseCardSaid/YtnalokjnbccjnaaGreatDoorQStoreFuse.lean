/- StoreFuse: whichever call of the device is the last one in a change of many files: for every input the law returns true. -/
import Derived.Test.YtnalokjnbccjnaaGreatDoorCards
import Derived.Test.YtnalokjnbccjnaaGreatDoorTie
import Derived.WalkKit
import Derived.ProofKit
import Derived.OpenShut
import Derived.ShutString
import Derived.ChangeOld
import Derived.Below
import Derived.Test.YtnalokjnbccjnaaGreatDoorM14
import Derived.Deep.DeepHandedRow
import Derived.SevenTiedAt
import Derived.LaidMore
import Derived.Stop.Joined
namespace Go.Proofs.YtnalokjnbccjnaaGreatDoor.storeFuse
open Go.ChangeShapes Go.WideShapes Go.ChangeAt Go.RowKit
open Go.ChangeMaps (open_string shut_string)
set_option linter.unusedVariables false

theorem own : ownKnob Tryz.prog.godebug = none := by kernel_rfl
theorem laidOut : laidOutB Tryz.prog = true := by kernel_rfl

theorem tab_of {w : World} (L : laidMetH Tryz.prog Rows.storeFuseRow.laid w) : Tab w := Tab.of (Lib.tabIs_of_head (rest := []) gNib (by kernel_rfl) Tryz.underlying199 Tryz.underlying155 (by kernel_rfl) (by kernel_rfl) L)
def VF26 (s2 b20 b4 n k : Nat) (vx vs : Value) (Y : List UInt8) : Nat → World → Value → Prop
  | 116, _, v => v = .int .i64 0
  | 117, _, v => v = .bool false
  | 118, _, v => v = .bool false
  | 119, _, v => v = vx
  | 120, _, v => v = .string (str Y)
  | 121, _, v => v = .pointer (some ⟨b20, 2, none⟩)
  | 122, _, v => v = vs
  | 123, _, v => v = .string (str Y)
  | 124, _, v => v = .bool false
  | 125, _, v => v = .bool false
  | 126, _, v => v = .bool false
  | 127, _, v => v = .pointer (some ⟨s2, 0, none⟩)
  | 128, w, v => ∃ a c, v = .slice a n c
  | 129, _, v => v = .int .i64 (n : Int)
  | 130, _, v => v = .int .i64 (n : Int)
  | 131, _, v => v = .bool false
  | 132, _, v => v = .bool false
  | 133, _, v => v = .bool false
  | 134, _, v => v = .int .i64 (k : Int)
  | 135, _, v => v = .int .i64 (n : Int)
  | 136, _, v => v = .bool false
  | 137, _, v => v = .bool false
  | _, _, _ => True

theorem VF26_below (s2 b20 b4 n k : Nat) (vx vs : Value) (Y : List UInt8) : ∀ (i : Nat) (w w' : World) (v : Value), VF26 s2 b20 b4 n k vx vs Y i w v → Below w.heap.size w w' → VF26 s2 b20 b4 n k vx vs Y i w' v := by
  intro i w w' v h hb
  unfold VF26 at h ⊢
  split at h <;> first | exact h | trivial | exact RB.below h hb | exact Own.below h hb | exact OwnV.below h hb

theorem secs_fn {n sz c : Nat} (hs : sz ≤ 300) : ∀ x ∈ FN n sz c, secs x.2.length ≤ secs (sz + 1) := by
  intro x hx
  obtain ⟨i, hi, rfl⟩ := List.mem_map.1 hx
  show secs (byI sz c i).length ≤ _
  unfold byI
  rw [List.length_replicate]
  exact Nat.le_refl _
theorem secs_puts {n sz c : Nat} {l : List PutT} (h : PutsN n sz c l) : ∀ z ∈ l, z.2.1 = false → z.2.2.2 ≠ [] → secs z.2.2.2.length = secs (sz + 1) := by
  intro x hx _ _
  obtain ⟨i, hi, rfl⟩ := List.mem_iff_getElem.1 hx
  rw [(h.2 i hi).2.2]
  unfold byI
  rw [List.length_replicate]
theorem room_nums {n sz N : Nat} (hn : N ≤ 10) (hn2 : n ≤ 10) (hs : sz ≤ 300) : 0 < secs (sz + 1) ∧ secs (sz + 1) ≤ 63 ∧ 286 / secs (sz + 1) * secs (sz + 1) ≤ 300 - 14 ∧ 2 * (N + n) + secs (26 * N + 1) < 286 / secs (sz + 1) ∧ (N + n) * secs (sz + 1) + 30 < 300 := by
  have h1 : secs (sz + 1) ≤ 5 := by unfold secs; omega
  have h0 : 0 < secs (sz + 1) := by unfold secs; omega
  have h2 : 286 / 5 ≤ 286 / secs (sz + 1) := Nat.div_le_div_left h1 h0
  have h3 : (N + n) * secs (sz + 1) ≤ 20 * 5 := Nat.mul_le_mul (by omega) h1
  have h4 : secs (26 * N + 1) ≤ 5 := by unfold secs; omega
  exact ⟨h0, by omega, Nat.div_mul_le_self _ _, by omega, by omega⟩
theorem apply_n {w : World} {M s d g p t n sz c K : Nat} {X : FL} {v : Value} {l : List PutT} (h : LW w M s d g p 300 (lifeN K) t X) (hT : Tab w) (hB : 0 < M) (hrp : RPt w v l) (hl : PutsN n sz c l) (hn : 1 ≤ n ∧ n ≤ 10) (hs : sz ≤ 300) (hX : X = [] ∨ ∃ c', X = FN n sz c') (hK : K ≤ 900000) (ht : t ≤ 1000000) :
    Calls Tryz.prog 16 #[.pointer (some ⟨s, 0, none⟩), v] w fun e w' => e = .returned (.int .i64 0) ∧ (∃ k', k' ≤ K + 1400 ∧ LW w' M s d g p 300 (lifeN k') (t + 1) (FN n sz c)) ∧ Tab w' ∧ Below M w w' ∧ Offs [s, d, g, p] w w' := by
  have hXl : X.length ≤ 10 := by
    rcases hX with rfl | ⟨c', rfl⟩
    · simp
    · rw [FN_len]; exact hn.2
  obtain ⟨r0, r1, r2, r3, r4⟩ := room_nums (n := n) (N := X.length) hXl hn.2 hs
  have := apply_ok h hT hB hrp (by rw [hl.1]; omega) (hl.ok hs) (fun e => by have := hl.1; rw [e] at this; simp at this; omega) (by rw [hl.done (by omega) hX, FN_len]; omega) hK ht (secs (sz + 1)) (286 / secs (sz + 1)) r0 r1 (by
    rcases hX with rfl | ⟨c', rfl⟩
    · intro x hx; cases hx
    · exact secs_fn hs) (secs_puts hl) r2 (by rw [hl.1]; exact r3) (by rw [hl.1]; exact r4)
  rw [hl.done (by omega) hX] at this
  exact this

set_option maxHeartbeats 8000000 in
set_option maxRecDepth 100000 in
theorem walk (w : World) (L : laidMetH Tryz.prog Rows.storeFuseRow.laid w) (a0 : Int) (w0 : (Lit.int .i64 a0).wf = true) (a1 : Int) (w1 : (Lit.int .i64 a1).wf = true) (a2 : Int) (w2 : (Lit.int .i64 a2).wf = true) (a3 : Option Addr) (len3 cap3 : Nat) (l3 : List Bool) (w3 : RV w (.slice a3 len3 cap3) (zb l3)) :
    Calls Tryz.prog 8 #[.int .i64 a0, .int .i64 a1, .int .i64 a2, .slice a3 len3 cap3] w fun e w' => e = .returned (.bool true) ∧ Below w.heap.size w w' := by
  have hT := tab_of L
  clear L w0 w1 w2
  have hbA := newB w (.cells #[.int .i64 a0] 3)
  have hbB := below_to hbA (Nat.le_refl _) (newB (w.alloc (.cells #[.int .i64 a0] 3)) (.cells #[.int .i64 a1] 3))
  have HT := Go.Lib.hid hT
  have HB0 := Go.Lib.hid hbB
  have C0 := Go.Lib.hid (begun_c ((w.alloc (.cells #[.int .i64 a0] 3)).alloc (.cells #[.int .i64 a1] 3)) (hT.below hbB))
  have h4 : ((w.alloc (.cells #[.int .i64 a0] 3)).alloc (.cells #[.int .i64 a1] 3)).cell? ⟨w.heap.size, 0, none⟩ = some (.int .i64 a0) := keptC (by rw [cell_of_row _ _ 0 _ _ _ (heap_alloc_new w (.cells #[.int .i64 a0] 3))]; rfl) (newB _ _)
  have h5 : ((w.alloc (.cells #[.int .i64 a0] 3)).alloc (.cells #[.int .i64 a1] 3)).cell? ⟨w.heap.size + 1, 0, none⟩ = some (.int .i64 a1) := by
    have := heap_alloc_new (w.alloc (.cells #[.int .i64 a0] 3)) (.cells #[.int .i64 a1] 3)
    rw [show (w.alloc (.cells #[Value.int .i64 a0] 3)).heap.size = w.heap.size + 1 from by simp] at this
    rw [cell_of_row _ _ 0 _ _ _ this]
    rfl
  have H45 := Go.Lib.hid (And.intro h4 h5)
  have HV := Go.Lib.hid w3
  obtain ⟨b4, hb4⟩ : ∃ b4, b4 = w.heap.size := ⟨_, rfl⟩
  clear hT hbA hbB h4 h5 w3
  go_enter Tryz.func8, Tryz.ntmps8
  go_wp2_with fail
  refine C0.out.mono ?_
  rintro e w1 ⟨rfl, hb1⟩
  have y4 := keptC H45.out.1 hb1
  have y5 := keptC H45.out.2 hb1
  have HB1 := Go.Lib.hid (below_to HB0.out (Nat.le_refl _) hb1)
  have HY := Go.Lib.hid (And.intro y4 y5)
  rw [← hb4] at HY y4 y5 ⊢
  clear hb1 C0 hb4
  by_cases g1 : a0 < 1
  · go_wp2_with fail
    go_ret
    exact ⟨rfl, HB1.out⟩
  by_cases g2 : 10 < a0
  · go_wp2_with fail
    go_ret
    exact ⟨rfl, HB1.out⟩
  by_cases g3 : a1 < 0
  · go_wp2_with fail
    go_ret
    exact ⟨rfl, HB1.out⟩
  by_cases g4 : 300 < a1
  · go_wp2_with fail
    go_ret
    exact ⟨rfl, HB1.out⟩
  by_cases g5 : a2 < 0
  · go_wp2_with fail
    go_ret
    exact ⟨rfl, HB1.out⟩
  by_cases g6 : 80 < a2
  · go_wp2_with fail
    go_ret
    exact ⟨rfl, HB1.out⟩
  obtain ⟨n, rfl⟩ : ∃ n : Nat, a0 = (n : Int) := ⟨a0.toNat, by omega⟩
  obtain ⟨sz, rfl⟩ : ∃ n : Nat, a1 = (n : Int) := ⟨a1.toNat, by omega⟩
  have HN := Go.Lib.hid (show (1 ≤ n ∧ n ≤ 10) ∧ sz ≤ 300 ∧ 0 ≤ a2 ∧ a2 ≤ 80 by omega)
  have eg := enters_of Tryz.func28 (by kernel_rfl) rfl
  have C1 := Go.Lib.hid (snew_c 300 w1)
  have HLO := Go.Lib.hid (show 0 < w1.heap.size from Nat.lt_of_lt_of_le HT.out.low HB1.out.size)
  go_wp2_with fail
  refine C1.out.mono ?_
  rintro e w2 ⟨d, g, rfl, hd2, hb2⟩
  rw [show lenD 300 = 300 from rfl] at hd2
  have HB2 := Go.Lib.hid hb2
  have C2 := Go.Lib.hid (make_ok hd2 (HT.out.below (below_to HB1.out (Nat.le_refl _) hb2)) (by omega) HLO.out hb2.size)
  clear hd2 hb2 C1
  go_wp2_with fail
  refine C2.out.mono ?_
  rintro e w3 ⟨s, p, rfl, hw3, ht3, hb3, -⟩
  have hb13 := HB2.out.trans hb3
  have HB3 := Go.Lib.hid hb13
  have HW3 := Go.Lib.hid (And.intro hw3 ht3)
  have CP := puts_c b4 (b4 + 1) n sz 1 (keptC HY.out.1 hb13) (keptC HY.out.2 hb13) HN.out.1.2 HN.out.2.1 (by omega)
  rw [show ((1 : Nat) : Int) = 1 from rfl] at CP
  have CP := Go.Lib.hid CP
  clear hw3 ht3 hb3 hb13 C2 HB2
  go_wp2_with fail
  refine CP.out.mono ?_
  rintro e w4 ⟨v4, pl4, rfl, ho4, hp4, hb4⟩
  have C3 := Go.Lib.hid (apply_n (HW3.out.1.below hb4) (HW3.out.2.below hb4) HLO.out ho4.rpt hp4 HN.out.1 HN.out.2.1 (.inl rfl) (by omega) (by omega))
  have HB4 := Go.Lib.hid (below_to HB3.out (Nat.le_refl _) hb4)
  clear ho4 hp4 hb4 CP
  go_wp2_with fail
  refine C3.out.mono ?_
  rintro e w5 ⟨rfl, ⟨K, hK, hw5⟩, ht5, hb5, -⟩
  have HB5 := Go.Lib.hid (HB4.out.trans hb5)
  have HK := Go.Lib.hid hK
  have CF := Go.Lib.hid (fuse_ok hw5 a2 (by have := HN.out.2.2; omega) (by have := HN.out.2.2; omega))
  have HLOWS := Go.Lib.hid hw5.low
  clear hw5 ht5 hb5 hK C3
  go_wp2_with fail
  refine CF.out.mono ?_
  rintro e w6 ⟨rfl, hw6, ht6⟩
  have hb6 := HB5.out.trans (ht6.below (B := w1.heap.size) HLOWS.out.2.1 (fun k hk => by cases hk; exact HLOWS.out.2.2.1) HB5.out.size)
  have HB6 := Go.Lib.hid hb6
  have HW6 := Go.Lib.hid hw6
  have CP := puts_c b4 (b4 + 1) n sz 100 (keptC HY.out.1 hb6) (keptC HY.out.2 hb6) HN.out.1.2 HN.out.2.1 (by omega)
  rw [show ((100 : Nat) : Int) = 100 from rfl] at CP
  have CP := Go.Lib.hid CP
  clear hw6 ht6 hb6 CF
  go_wp2_with fail
  refine CP.out.mono ?_
  rintro e w7 ⟨v7, pl7, rfl, ho7, hp7, hb7⟩
  have HB7 := Go.Lib.hid (below_to HB6.out (Nat.le_refl _) hb7)
  have HP7 := Go.Lib.hid hp7
  have CA := Go.Lib.hid (apply_any (HW6.out.below hb7) (HT.out.below (below_to HB1.out (Nat.le_refl _) HB7.out)) HLO.out ho7.rpt (by rw [hp7.1]; have := HN.out; omega) (hp7.ok HN.out.2.1) (fun e => by have := hp7.1; rw [e] at this; simp at this; have := HN.out; omega) (by
    unfold Life.fuseTo
    have := HK.out
    split
    · show (K : Int) ≤ 900000; omega
    · show (K : Int) ≤ 900000; omega) (by omega))
  have HW7 := Go.Lib.hid (HW6.out.below hb7)
  clear ho7 hp7 hb7 CP
  go_wp2_with fail
  refine CA.out.mono ?_
  rintro e w8 ⟨r8, rfl, hwhat⟩
  have hdn : doneL (FN n sz 1) pl7 = FN n sz 100 := HP7.out.done (by have := HN.out; omega) (.inr ⟨1, rfl⟩)
  unfold ApWhat at hwhat
  rw [hdn, FN_len] at hwhat
  -- what the crash leaves
  have hstate : (r8 = 0 ∨ r8 = 7) ∧ Tab w8 ∧ Below w1.heap.size w7 w8 ∧ ∀ (W : World), Below w8.heap.size w8 W → ∀ (kv : Value) (keep : List Bool), RV W kv (zb keep) → Calls Tryz.prog 19 #[.pointer (some ⟨d, 0, none⟩), kv] W fun e w' => ∃ (d' g' c : Nat), e = .returned (.pointer (some ⟨d', 0, none⟩)) ∧ (c = 100 ∨ c = 1 ∧ r8 = 7) ∧ LD w' W.heap.size d' g' 300 3 (FN n sz c) ∧ Below W.heap.size W w' := by
    rcases hwhat with ⟨-, h1, -⟩ | ⟨-, -, -, h1⟩ | ⟨-, h1, h2, h3, ⟨rfl, L', -, h4⟩ | ⟨rfl, h4⟩⟩
    · have := HN.out; omega
    · exfalso
      obtain ⟨r0, r1, r2, r3, r4⟩ := room_nums (n := n) (N := n) HN.out.1.2 HN.out.1.2 HN.out.2.1
      exact h1 (secs (sz + 1)) (286 / secs (sz + 1)) r0 r1 (secs_fn HN.out.2.1) (secs_puts HP7.out) r2 (by rw [FN_len, HP7.out.1]; exact r3) (by rw [FN_len, HP7.out.1]; exact r4)
    · refine ⟨.inl rfl, h2, h3, fun W hW kv keep hv => ?_⟩
      refine (crash_ok (h4.below hW) kv keep hv).mono ?_
      rintro e w' ⟨d', g', rfl, h5, h6⟩
      exact ⟨d', g', 100, rfl, .inl rfl, h5, h6⟩
    · refine ⟨.inr rfl, h2, h3, fun W hW kv keep hv => ?_⟩
      refine (crash_down (h4.below hW) kv keep hv).mono ?_
      rintro e w' ⟨d', g', Z, rfl, h7, h5, h6⟩
      rcases h7 with rfl | rfl
      · exact ⟨d', g', 1, rfl, .inr ⟨rfl, rfl⟩, h5, h6⟩
      · exact ⟨d', g', 100, rfl, .inl rfl, h5, h6⟩
  obtain ⟨hr8, ht8, hb8, hcr⟩ := hstate
  have HB8 := Go.Lib.hid (HB7.out.trans hb8)
  have HBW8 := Go.Lib.hid (below_to HB1.out (Nat.le_refl _) HB8.out)
  have CC := Go.Lib.hid (hcr w8 (Below.refl _ _) (.slice a3 len3 cap3) l3 (HV.out.below HBW8.out))
  have HR8 := Go.Lib.hid hr8
  clear hwhat hdn hr8 ht8 hb8 hcr CA
  go_wp2_with fail
  refine CC.out.mono ?_
  rintro e w9 ⟨d9, g9, c, rfl, hc9, hd9, hb9⟩
  have HBW9 := Go.Lib.hid (below_to HBW8.out (Nat.le_refl _) hb9)
  have HB9 := Go.Lib.hid (below_to HB8.out (Nat.le_refl _) hb9)
  have CO := Go.Lib.hid (open_ok hd9 (HT.out.below HBW9.out) hb9.size)
  have HC9 := Go.Lib.hid hc9
  have HM9 := Go.Lib.hid (show 0 < w8.heap.size from Nat.lt_of_lt_of_le HT.out.low HBW8.out.size)
  clear hc9 hd9 hb9 CC
  go_wp2_with fail
  refine CO.out.mono ?_
  rintro e wa ⟨s2, p2, rfl, hwa, hba, -⟩
  have HBa := Go.Lib.hid (below_to HB9.out (Nat.le_refl _) hba)
  have HWa := Go.Lib.hid hwa
  have CG := Go.Lib.hid (get_ok hwa (nmI 0) (byI sz c 0) (FN_look n sz c (by have := HN.out; omega) 0 (by have := HN.out; omega)))
  rw [show nmI 0 = (⟨#[97]⟩ : ByteArray) from rfl] at CG
  clear hwa hba CO
  go_wp2_with fail
  refine CG.out.mono ?_
  rintro e wb ⟨vf, rfl, hof, hbb⟩
  rcases HC9.out with rfl | ⟨rfl, rfl⟩
  · rcases HR8.out with rfl | rfl
    · obtain ⟨gf, cf, rfl, -, -, -, -, -⟩ := hof.form (by unfold byI; rw [List.length_replicate]; omega)
      have hcell : wb.cell? ⟨gf, 0, none⟩ = some (.int .u8 100) := by
        have h := hof.cell 0 (by unfold byI; rw [List.length_replicate]; omega)
        rw [h]
        unfold byI
        rw [List.getElem_replicate]
        rfl
      have hlenf : (byI sz 100 0).length = sz + 1 := by unfold byI; rw [List.length_replicate]
      have hszI : (0 : Int) < ((sz + 1 : Nat) : Int) := by omega
      rw [hlenf]
      have HBb := Go.Lib.hid (below_to HBa.out (Nat.le_refl _) hbb)
      have HWb := Go.Lib.hid (HWa.out.below hbb)
      have CQ := puts_c b4 (b4 + 1) n sz 100 (keptC HY.out.1 HBb.out) (keptC HY.out.2 HBb.out) HN.out.1.2 HN.out.2.1 (by omega)
      rw [show ((100 : Nat) : Int) = 100 from rfl] at CQ
      have CQ := Go.Lib.hid CQ
      clear hof hbb CG
      go_wp2_with fail
      clear hcell hlenf hszI
      refine CQ.out.mono ?_
      rintro e wc ⟨vc, plc, rfl, hoc, hpc, hbc⟩
      obtain ⟨ac, qc, rfl⟩ := hoc.form
      have hpl := hpc.1
      rw [hpl]
      have HOC := Go.Lib.hid hoc
      have HPC := Go.Lib.hid hpc
      have HBc := Go.Lib.hid (below_to HBb.out (Nat.le_refl _) hbc)
      have HWc := Go.Lib.hid (HWb.out.below hbc)
      clear hoc hpc hbc hpl CQ
      go_wp2_with fail
      go_loopw [104] (fun i wr => ∃ k : Nat, k ≤ n ∧ i = .int .i64 (k : Int) ∧ Below wc.heap.size wc wr) (fun i _ => n - (intOf i).toNat)
      case atStart => exact ⟨0, by omega, rfl, Below.refl _ _⟩
      case round =>
        obtain ⟨k, hk, rfl, hbw⟩ := hrel
        by_cases hlt : k < n
        · have hkp : k < plc.length := by rw [HPC.out.1]; exact hlt
          have hrow := (HOC.out.below hbw).rpt
          rw [HPC.out.1] at hrow
          obtain ⟨gp, rfl, -, z0, z1, z2⟩ := hrow.at k hkp
          obtain ⟨e1, e2, e3⟩ := HPC.out.2 k hkp
          have htx := (HOC.out.below hbw).tx plc[k] (List.getElem_mem hkp)
          rw [e3] at htx
          rw [e1] at z0
          rw [e2] at z1
          generalize plc[k].2.2.1 = sl at *
          obtain ⟨sa, sn, sc⟩ := sl
          unfold slV at z2 htx
          simp only at z2 htx
          clear e1 e2 e3 hrow
          have hkI : (k : Int) < (n : Int) := by omega
          have hal := newB wr (.cells #[.string (nmI k), .bool false, .slice sa sn sc] 47)
          obtain ⟨x0, x1, x2⟩ := cell_of3 (heap_alloc_new wr (.cells #[.string (nmI k), .bool false, .slice sa sn sc] 47))
          have hb2 := below_to hbw (Nat.le_refl _) hal
          have CG := Go.Lib.hid (get_ok (HWc.out.below hb2) (nmI k) (byI sz 100 k) (FN_look n sz 100 (by have := HN.out; omega) k hlt))
          have HLT := Go.Lib.hid hlt
          have HKI := Go.Lib.hid hkI
          have HB2 := Go.Lib.hid hb2
          have HTX := Go.Lib.hid (htx.below hal)
          have HX2 := Go.Lib.hid x2
          obtain ⟨b20, hb20⟩ : ∃ b20, b20 = wr.heap.size := ⟨_, rfl⟩
          have HB20 := Go.Lib.hid hb20
          obtain ⟨Y, hY⟩ : ∃ Y, Y = byI sz 100 k := ⟨_, rfl⟩
          rw [← hY] at CG HTX
          clear hkp htx hal hb2 hbw hlt hk hY hb20
          go_wp2_with fail
          refine CG.out.mono ?_
          rintro e w5 ⟨vx, rfl, hox, hb5⟩
          obtain ⟨ax, nx, cx, rfl⟩ : ∃ a n c, vx = .slice a n c := by obtain ⟨a, c, h, -⟩ := hox.rb; exact ⟨a, _, c, h⟩
          have hb25 := below_to HB2.out (Nat.le_refl _) hb5
          have HB25 := Go.Lib.hid hb25
          have HVX := Go.Lib.hid (show ∀ W, Below w5.heap.size w5 W → RB W (.slice ax nx cx) Y from fun W hW => (hox.below hW).rb)
          have HVS := Go.Lib.hid (show ∀ W, Below w5.heap.size w5 W → RB W (.slice sa sn sc) Y from fun W hW => ((HTX.out.below hb5).below hW).1)
          have HC20 := Go.Lib.hid (show ∀ W, Below w5.heap.size w5 W → W.cell? ⟨b20, 2, none⟩ = some (.slice sa sn sc) ∧ W.cell? ⟨b4, 0, none⟩ = some (.int .i64 (n : Int)) from fun W hW => ⟨by rw [HB20.out]; exact keptC (keptC HX2.out hb5) hW, keptC HY.out.1 (below_to (below_to HBc.out (Nat.le_refl _) hb25) (Nat.le_refl _) hW)⟩)
          have CN := Go.Lib.hid (show ∀ W, Below w5.heap.size w5 W → Calls Tryz.prog 23 #[.pointer (some ⟨s2, 0, none⟩)] W fun e w' => ∃ a c, e = .returned (.slice a n c) ∧ Below W.heap.size W w' from fun W hW => by
            refine (names_ok ((HWc.out.below hb25).below hW)).mono ?_
            rintro e w' ⟨v, rfl, hv, hb⟩
            obtain ⟨a, c, rfl, -⟩ := hv.rv.form
            rw [List.length_map, FN_len]
            exact ⟨a, c, rfl, hb⟩)
          clear hox hb5 hb25 CG x0 x1 x2 z0 z1 z2
          go_upto_region 26 with (fail)
          rw [← HB20.out]
          refine wp_region_each (by kernel_rfl) (VF26 s2 b20 b4 n k (.slice ax nx cx) (.slice sa sn sc) Y) (VF26_below s2 b20 b4 n k (.slice ax nx cx) (.slice sa sn sc) Y) (by decide +kernel) (by decide +kernel) (by rfl) [116, 117, 118, 119, 120, 121, 122, 123, 124, 125, 126, 127, 128, 129, 130, 131, 132, 133, 134, 135, 136, 137] (by rfl) ?_ ?_
          · intro i o ho a w6 hb6 hlen hg
            have hcc := HC20.out w6 hb6
            have hlt := HLT.out
            match i, ho with
            | 0, ho =>
              obtain rfl := Option.some.inj ho
              have h22 := given_old hg 22 (by decide +kernel)
              clear hg
              exact st_yield ho (wanted_none rfl) (.int .i64 0) w6 (by simp [execOp, Act.eval, h22, go_sem]) ⟨_, rfl, Below.refl _ _, by rintro t' ⟨⟩; rfl⟩
            | 1, ho =>
              obtain rfl := Option.some.inj ho
              obtain ⟨_, h116, rfl⟩ := given_fed hg 116 (by decide +kernel)
              clear hg
              exact st_yield ho (wanted_none rfl) (.bool false) w6 (by simp [execOp, Act.eval, h116, go_sem]) ⟨_, rfl, Below.refl _ _, by rintro t' ⟨⟩; rfl⟩
            | 2, ho =>
              obtain rfl := Option.some.inj ho
              obtain ⟨_, h117, rfl⟩ := given_fed hg 117 (by decide +kernel)
              clear hg
              exact st_yield ho (wanted_none rfl) (.bool false) w6 (by simp [execOp, Act.eval, h117, go_sem]) ⟨_, rfl, Below.refl _ _, by rintro t' ⟨⟩; rfl⟩
            | 3, ho =>
              obtain rfl := Option.some.inj ho
              have h21 := given_old hg 21 (by decide +kernel)
              obtain ⟨_, h118, rfl⟩ := given_fed hg 118 (by decide +kernel)
              clear hg
              exact st_yield ho (wanted_some rfl rfl h118 rfl) (.slice ax nx cx) w6 (by simp [execOp, Act.eval, h21, go_sem]) ⟨_, rfl, Below.refl _ _, by rintro t' ⟨⟩; rfl⟩
            | 4, ho =>
              obtain rfl := Option.some.inj ho
              obtain ⟨_, h119, rfl⟩ := given_fed hg 119 (by decide +kernel)
              obtain ⟨_, h118, rfl⟩ := given_fed hg 118 (by decide +kernel)
              clear hg
              have cv := run_string_RB w6 45 5 9 Tryz.underlying45 Tryz.underlying5 Tryz.underlying9 (.slice ax nx cx) Y (HVX.out w6 hb6)
              exact st_yield ho (wanted_some rfl rfl h118 rfl) (.string (str Y)) w6 (by simp [execOp, Act.eval, h119, go_sem, cv, Result.andThen]) ⟨_, rfl, Below.refl _ _, by rintro t' ⟨⟩; rfl⟩
            | 5, ho =>
              obtain rfl := Option.some.inj ho
              have h20 := given_old hg 20 (by decide +kernel)
              obtain ⟨_, h118, rfl⟩ := given_fed hg 118 (by decide +kernel)
              clear hg
              exact st_yield ho (wanted_some rfl rfl h118 rfl) (.pointer (some ⟨b20, 2, none⟩)) w6 (by simp [execOp, Act.eval, h20, go_sem]) ⟨_, rfl, Below.refl _ _, by rintro t' ⟨⟩; rfl⟩
            | 6, ho =>
              obtain rfl := Option.some.inj ho
              obtain ⟨_, h121, rfl⟩ := given_fed hg 121 (by decide +kernel)
              obtain ⟨_, h118, rfl⟩ := given_fed hg 118 (by decide +kernel)
              clear hg
              exact st_yield ho (wanted_some rfl rfl h118 rfl) (.slice sa sn sc) w6 (by simp [execOp, Act.eval, h121, go_sem, hcc.1]) ⟨_, rfl, Below.refl _ _, by rintro t' ⟨⟩; rfl⟩
            | 7, ho =>
              obtain rfl := Option.some.inj ho
              obtain ⟨_, h122, rfl⟩ := given_fed hg 122 (by decide +kernel)
              obtain ⟨_, h118, rfl⟩ := given_fed hg 118 (by decide +kernel)
              clear hg
              have cv := run_string_RB w6 45 5 9 Tryz.underlying45 Tryz.underlying5 Tryz.underlying9 (.slice sa sn sc) Y (HVS.out w6 hb6)
              exact st_yield ho (wanted_some rfl rfl h118 rfl) (.string (str Y)) w6 (by simp [execOp, Act.eval, h122, go_sem, cv, Result.andThen]) ⟨_, rfl, Below.refl _ _, by rintro t' ⟨⟩; rfl⟩
            | 8, ho =>
              obtain rfl := Option.some.inj ho
              obtain ⟨_, h120, rfl⟩ := given_fed hg 120 (by decide +kernel)
              obtain ⟨_, h123, rfl⟩ := given_fed hg 123 (by decide +kernel)
              obtain ⟨_, h118, rfl⟩ := given_fed hg 118 (by decide +kernel)
              clear hg
              exact st_yield ho (wanted_some rfl rfl h118 rfl) (.bool false) w6 (by simp [execOp, Act.eval, h120, h123, go_sem]) ⟨_, rfl, Below.refl _ _, by rintro t' ⟨⟩; rfl⟩
            | 9, ho =>
              obtain rfl := Option.some.inj ho
              obtain ⟨_, h118, rfl⟩ := given_fed hg 118 (by decide +kernel)
              obtain ⟨_, h124, rfl⟩ := given_fed hg 124 (by decide +kernel)
              clear hg
              exact st_yield ho (wanted_none rfl) (.bool false) w6 (by simp [execOp, Act.eval, h118, h124, go_sem]) ⟨_, rfl, Below.refl _ _, by rintro t' ⟨⟩; rfl⟩
            | 10, ho =>
              obtain rfl := Option.some.inj ho
              obtain ⟨_, h125, rfl⟩ := given_fed hg 125 (by decide +kernel)
              clear hg
              exact st_yield ho (wanted_none rfl) (.bool false) w6 (by simp [execOp, Act.eval, h125, go_sem]) ⟨_, rfl, Below.refl _ _, by rintro t' ⟨⟩; rfl⟩
            | 11, ho =>
              obtain rfl := Option.some.inj ho
              have h14 := given_old hg 14 (by decide +kernel)
              obtain ⟨_, h126, rfl⟩ := given_fed hg 126 (by decide +kernel)
              clear hg
              exact st_yield ho (wanted_some rfl rfl h126 rfl) (.pointer (some ⟨s2, 0, none⟩)) w6 (by simp [execOp, Act.eval, h14, go_sem]) ⟨_, rfl, Below.refl _ _, by rintro t' ⟨⟩; rfl⟩
            | 12, ho =>
              obtain rfl := Option.some.inj ho
              obtain ⟨_, h127, rfl⟩ := given_fed hg 127 (by decide +kernel)
              obtain ⟨_, h126, rfl⟩ := given_fed hg 126 (by decide +kernel)
              clear hg
              exact st_enter (w1 := w6) ho (wanted_some rfl rfl h126 rfl) 23 #[.pointer (some ⟨s2, 0, none⟩)] (by simp [execOp, Act.eval, h127, resolve, go_sem]) ((CN.out w6 hb6).mono (by rintro e w7 ⟨a, c, rfl, hb7⟩; exact ⟨_, rfl, _, rfl, hb7, by rintro t' ⟨⟩; exact ⟨a, c, rfl⟩⟩))
            | 13, ho =>
              obtain rfl := Option.some.inj ho
              obtain ⟨v128, h128, p128⟩ := given_fed hg 128 (by decide +kernel)
              obtain ⟨_, h126, rfl⟩ := given_fed hg 126 (by decide +kernel)
              clear hg
              obtain ⟨an, cn, rfl⟩ := p128
              exact st_yield ho (wanted_some rfl rfl h126 rfl) (.int .i64 (n : Int)) w6 (by simp [execOp, Act.eval, h128, go_sem, resolve]) ⟨_, rfl, Below.refl _ _, by rintro t' ⟨⟩; rfl⟩
            | 14, ho =>
              obtain rfl := Option.some.inj ho
              have h4 := given_old hg 4 (by decide +kernel)
              obtain ⟨_, h126, rfl⟩ := given_fed hg 126 (by decide +kernel)
              clear hg
              exact st_yield ho (wanted_some rfl rfl h126 rfl) (.int .i64 (n : Int)) w6 (by simp [execOp, Act.eval, h4, go_sem, hcc.2]) ⟨_, rfl, Below.refl _ _, by rintro t' ⟨⟩; rfl⟩
            | 15, ho =>
              obtain rfl := Option.some.inj ho
              obtain ⟨_, h129, rfl⟩ := given_fed hg 129 (by decide +kernel)
              obtain ⟨_, h130, rfl⟩ := given_fed hg 130 (by decide +kernel)
              obtain ⟨_, h126, rfl⟩ := given_fed hg 126 (by decide +kernel)
              clear hg
              exact st_yield ho (wanted_some rfl rfl h126 rfl) (.bool false) w6 (by simp [execOp, Act.eval, h129, h130, go_sem]) ⟨_, rfl, Below.refl _ _, by rintro t' ⟨⟩; rfl⟩
            | 16, ho =>
              obtain rfl := Option.some.inj ho
              obtain ⟨_, h126, rfl⟩ := given_fed hg 126 (by decide +kernel)
              obtain ⟨_, h131, rfl⟩ := given_fed hg 131 (by decide +kernel)
              clear hg
              exact st_yield ho (wanted_none rfl) (.bool false) w6 (by simp [execOp, Act.eval, h126, h131, go_sem]) ⟨_, rfl, Below.refl _ _, by rintro t' ⟨⟩; rfl⟩
            | 17, ho =>
              obtain rfl := Option.some.inj ho
              obtain ⟨_, h132, rfl⟩ := given_fed hg 132 (by decide +kernel)
              clear hg
              exact st_yield ho (wanted_none rfl) (.bool false) w6 (by simp [execOp, Act.eval, h132, go_sem]) ⟨_, rfl, Below.refl _ _, by rintro t' ⟨⟩; rfl⟩
            | 18, ho =>
              obtain rfl := Option.some.inj ho
              have h19 := given_old hg 19 (by decide +kernel)
              obtain ⟨_, h133, rfl⟩ := given_fed hg 133 (by decide +kernel)
              clear hg
              exact st_yield ho (wanted_some rfl rfl h133 rfl) (.int .i64 (k : Int)) w6 (by simp [execOp, Act.eval, h19, go_sem]) ⟨_, rfl, Below.refl _ _, by rintro t' ⟨⟩; rfl⟩
            | 19, ho =>
              obtain rfl := Option.some.inj ho
              have h4 := given_old hg 4 (by decide +kernel)
              obtain ⟨_, h133, rfl⟩ := given_fed hg 133 (by decide +kernel)
              clear hg
              exact st_yield ho (wanted_some rfl rfl h133 rfl) (.int .i64 (n : Int)) w6 (by simp [execOp, Act.eval, h4, go_sem, hcc.2]) ⟨_, rfl, Below.refl _ _, by rintro t' ⟨⟩; rfl⟩
            | 20, ho =>
              obtain rfl := Option.some.inj ho
              obtain ⟨_, h134, rfl⟩ := given_fed hg 134 (by decide +kernel)
              obtain ⟨_, h135, rfl⟩ := given_fed hg 135 (by decide +kernel)
              obtain ⟨_, h133, rfl⟩ := given_fed hg 133 (by decide +kernel)
              clear hg
              exact st_yield ho (wanted_some rfl rfl h133 rfl) (.bool false) w6 (by simp [execOp, Act.eval, h134, h135, go_sem, hlt]) ⟨_, rfl, Below.refl _ _, by rintro t' ⟨⟩; rfl⟩
            | 21, ho =>
              obtain rfl := Option.some.inj ho
              obtain ⟨_, h133, rfl⟩ := given_fed hg 133 (by decide +kernel)
              obtain ⟨_, h136, rfl⟩ := given_fed hg 136 (by decide +kernel)
              clear hg
              exact st_yield ho (wanted_none rfl) (.bool false) w6 (by simp [execOp, Act.eval, h133, h136, go_sem]) ⟨_, rfl, Below.refl _ _, by rintro t' ⟨⟩; rfl⟩
            | n + 22, ho => simp at ho
          · intro f5 w6 hb6 hv
            have h137 := hv 137 (by decide)
            simp only [VF26] at h137
            have HB6 := Go.Lib.hid (below_to HB25.out (Nat.le_refl _) hb6)
            clear hv hb6 CN HVX HVS HC20
            unfold putAll
            simp only [List.foldl]
            simp only [h137]
            go_simp
            clear h137
            go_wp2_with fail
            go_roundw
            case rel => exact ⟨k + 1, by have := HLT.out; omega, by go_num, HB6.out⟩
            case measure => simp only [intOf]; have := HLT.out; omega
        · obtain rfl : k = n := by omega
          have hbw1 := below_to HBc.out (Nat.le_refl _) hbw
          have CZ := puts_c b4 (b4 + 1) k sz 7 (keptC HY.out.1 hbw1) (keptC HY.out.2 hbw1) HN.out.1.2 HN.out.2.1 (by omega)
          rw [show ((7 : Nat) : Int) = 7 from rfl] at CZ
          have CZ := Go.Lib.hid CZ
          have HBw := Go.Lib.hid hbw1
          have HWw := Go.Lib.hid (HWc.out.below hbw)
          clear hbw hbw1 hlt hk
          go_wp2_with fail
          refine CZ.out.mono ?_
          rintro e wy ⟨vy, ply, rfl, hoy, hpy, hby⟩
          have HBy := Go.Lib.hid (below_to HBw.out (Nat.le_refl _) hby)
          have CX := Go.Lib.hid (apply_n (HWw.out.below hby) (HT.out.below (below_to HB1.out (Nat.le_refl _) HBy.out)) HM9.out hoy.rpt hpy HN.out.1 HN.out.2.1 (.inr ⟨100, rfl⟩) (by omega) (by omega))
          clear hoy hpy hby CZ
          go_wp2_with fail
          refine CX.out.mono ?_
          rintro e wz ⟨rfl, -, -, hbz, -⟩
          have HBz := Go.Lib.hid (below_to HB1.out (Nat.le_refl _) (HBy.out.trans (hbz.mono HB8.out.size)))
          clear hbz CX
          go_wp2_with fail
          go_ret
          exact ⟨rfl, HBz.out⟩
    · obtain ⟨gf, cf, rfl, -, -, -, -, -⟩ := hof.form (by unfold byI; rw [List.length_replicate]; omega)
      have hcell : wb.cell? ⟨gf, 0, none⟩ = some (.int .u8 100) := by
        have h := hof.cell 0 (by unfold byI; rw [List.length_replicate]; omega)
        rw [h]
        unfold byI
        rw [List.getElem_replicate]
        rfl
      have hlenf : (byI sz 100 0).length = sz + 1 := by unfold byI; rw [List.length_replicate]
      have hszI : (0 : Int) < ((sz + 1 : Nat) : Int) := by omega
      rw [hlenf]
      have HBb := Go.Lib.hid (below_to HBa.out (Nat.le_refl _) hbb)
      have HWb := Go.Lib.hid (HWa.out.below hbb)
      have CQ := puts_c b4 (b4 + 1) n sz 100 (keptC HY.out.1 HBb.out) (keptC HY.out.2 HBb.out) HN.out.1.2 HN.out.2.1 (by omega)
      rw [show ((100 : Nat) : Int) = 100 from rfl] at CQ
      have CQ := Go.Lib.hid CQ
      clear hof hbb CG
      go_wp2_with fail
      clear hcell hlenf hszI
      refine CQ.out.mono ?_
      rintro e wc ⟨vc, plc, rfl, hoc, hpc, hbc⟩
      obtain ⟨ac, qc, rfl⟩ := hoc.form
      have hpl := hpc.1
      rw [hpl]
      have HOC := Go.Lib.hid hoc
      have HPC := Go.Lib.hid hpc
      have HBc := Go.Lib.hid (below_to HBb.out (Nat.le_refl _) hbc)
      have HWc := Go.Lib.hid (HWb.out.below hbc)
      clear hoc hpc hbc hpl CQ
      go_wp2_with fail
      go_loopw [104] (fun i wr => ∃ k : Nat, k ≤ n ∧ i = .int .i64 (k : Int) ∧ Below wc.heap.size wc wr) (fun i _ => n - (intOf i).toNat)
      case atStart => exact ⟨0, by omega, rfl, Below.refl _ _⟩
      case round =>
        obtain ⟨k, hk, rfl, hbw⟩ := hrel
        by_cases hlt : k < n
        · have hkp : k < plc.length := by rw [HPC.out.1]; exact hlt
          have hrow := (HOC.out.below hbw).rpt
          rw [HPC.out.1] at hrow
          obtain ⟨gp, rfl, -, z0, z1, z2⟩ := hrow.at k hkp
          obtain ⟨e1, e2, e3⟩ := HPC.out.2 k hkp
          have htx := (HOC.out.below hbw).tx plc[k] (List.getElem_mem hkp)
          rw [e3] at htx
          rw [e1] at z0
          rw [e2] at z1
          generalize plc[k].2.2.1 = sl at *
          obtain ⟨sa, sn, sc⟩ := sl
          unfold slV at z2 htx
          simp only at z2 htx
          clear e1 e2 e3 hrow
          have hkI : (k : Int) < (n : Int) := by omega
          have hal := newB wr (.cells #[.string (nmI k), .bool false, .slice sa sn sc] 47)
          obtain ⟨x0, x1, x2⟩ := cell_of3 (heap_alloc_new wr (.cells #[.string (nmI k), .bool false, .slice sa sn sc] 47))
          have hb2 := below_to hbw (Nat.le_refl _) hal
          have CG := Go.Lib.hid (get_ok (HWc.out.below hb2) (nmI k) (byI sz 100 k) (FN_look n sz 100 (by have := HN.out; omega) k hlt))
          have HLT := Go.Lib.hid hlt
          have HKI := Go.Lib.hid hkI
          have HB2 := Go.Lib.hid hb2
          have HTX := Go.Lib.hid (htx.below hal)
          have HX2 := Go.Lib.hid x2
          obtain ⟨b20, hb20⟩ : ∃ b20, b20 = wr.heap.size := ⟨_, rfl⟩
          have HB20 := Go.Lib.hid hb20
          obtain ⟨Y, hY⟩ : ∃ Y, Y = byI sz 100 k := ⟨_, rfl⟩
          rw [← hY] at CG HTX
          clear hkp htx hal hb2 hbw hlt hk hY hb20
          go_wp2_with fail
          refine CG.out.mono ?_
          rintro e w5 ⟨vx, rfl, hox, hb5⟩
          obtain ⟨ax, nx, cx, rfl⟩ : ∃ a n c, vx = .slice a n c := by obtain ⟨a, c, h, -⟩ := hox.rb; exact ⟨a, _, c, h⟩
          have hb25 := below_to HB2.out (Nat.le_refl _) hb5
          have HB25 := Go.Lib.hid hb25
          have HVX := Go.Lib.hid (show ∀ W, Below w5.heap.size w5 W → RB W (.slice ax nx cx) Y from fun W hW => (hox.below hW).rb)
          have HVS := Go.Lib.hid (show ∀ W, Below w5.heap.size w5 W → RB W (.slice sa sn sc) Y from fun W hW => ((HTX.out.below hb5).below hW).1)
          have HC20 := Go.Lib.hid (show ∀ W, Below w5.heap.size w5 W → W.cell? ⟨b20, 2, none⟩ = some (.slice sa sn sc) ∧ W.cell? ⟨b4, 0, none⟩ = some (.int .i64 (n : Int)) from fun W hW => ⟨by rw [HB20.out]; exact keptC (keptC HX2.out hb5) hW, keptC HY.out.1 (below_to (below_to HBc.out (Nat.le_refl _) hb25) (Nat.le_refl _) hW)⟩)
          have CN := Go.Lib.hid (show ∀ W, Below w5.heap.size w5 W → Calls Tryz.prog 23 #[.pointer (some ⟨s2, 0, none⟩)] W fun e w' => ∃ a c, e = .returned (.slice a n c) ∧ Below W.heap.size W w' from fun W hW => by
            refine (names_ok ((HWc.out.below hb25).below hW)).mono ?_
            rintro e w' ⟨v, rfl, hv, hb⟩
            obtain ⟨a, c, rfl, -⟩ := hv.rv.form
            rw [List.length_map, FN_len]
            exact ⟨a, c, rfl, hb⟩)
          clear hox hb5 hb25 CG x0 x1 x2 z0 z1 z2
          go_upto_region 26 with (fail)
          rw [← HB20.out]
          refine wp_region_each (by kernel_rfl) (VF26 s2 b20 b4 n k (.slice ax nx cx) (.slice sa sn sc) Y) (VF26_below s2 b20 b4 n k (.slice ax nx cx) (.slice sa sn sc) Y) (by decide +kernel) (by decide +kernel) (by rfl) [116, 117, 118, 119, 120, 121, 122, 123, 124, 125, 126, 127, 128, 129, 130, 131, 132, 133, 134, 135, 136, 137] (by rfl) ?_ ?_
          · intro i o ho a w6 hb6 hlen hg
            have hcc := HC20.out w6 hb6
            have hlt := HLT.out
            match i, ho with
            | 0, ho =>
              obtain rfl := Option.some.inj ho
              have h22 := given_old hg 22 (by decide +kernel)
              clear hg
              exact st_yield ho (wanted_none rfl) (.int .i64 0) w6 (by simp [execOp, Act.eval, h22, go_sem]) ⟨_, rfl, Below.refl _ _, by rintro t' ⟨⟩; rfl⟩
            | 1, ho =>
              obtain rfl := Option.some.inj ho
              obtain ⟨_, h116, rfl⟩ := given_fed hg 116 (by decide +kernel)
              clear hg
              exact st_yield ho (wanted_none rfl) (.bool false) w6 (by simp [execOp, Act.eval, h116, go_sem]) ⟨_, rfl, Below.refl _ _, by rintro t' ⟨⟩; rfl⟩
            | 2, ho =>
              obtain rfl := Option.some.inj ho
              obtain ⟨_, h117, rfl⟩ := given_fed hg 117 (by decide +kernel)
              clear hg
              exact st_yield ho (wanted_none rfl) (.bool false) w6 (by simp [execOp, Act.eval, h117, go_sem]) ⟨_, rfl, Below.refl _ _, by rintro t' ⟨⟩; rfl⟩
            | 3, ho =>
              obtain rfl := Option.some.inj ho
              have h21 := given_old hg 21 (by decide +kernel)
              obtain ⟨_, h118, rfl⟩ := given_fed hg 118 (by decide +kernel)
              clear hg
              exact st_yield ho (wanted_some rfl rfl h118 rfl) (.slice ax nx cx) w6 (by simp [execOp, Act.eval, h21, go_sem]) ⟨_, rfl, Below.refl _ _, by rintro t' ⟨⟩; rfl⟩
            | 4, ho =>
              obtain rfl := Option.some.inj ho
              obtain ⟨_, h119, rfl⟩ := given_fed hg 119 (by decide +kernel)
              obtain ⟨_, h118, rfl⟩ := given_fed hg 118 (by decide +kernel)
              clear hg
              have cv := run_string_RB w6 45 5 9 Tryz.underlying45 Tryz.underlying5 Tryz.underlying9 (.slice ax nx cx) Y (HVX.out w6 hb6)
              exact st_yield ho (wanted_some rfl rfl h118 rfl) (.string (str Y)) w6 (by simp [execOp, Act.eval, h119, go_sem, cv, Result.andThen]) ⟨_, rfl, Below.refl _ _, by rintro t' ⟨⟩; rfl⟩
            | 5, ho =>
              obtain rfl := Option.some.inj ho
              have h20 := given_old hg 20 (by decide +kernel)
              obtain ⟨_, h118, rfl⟩ := given_fed hg 118 (by decide +kernel)
              clear hg
              exact st_yield ho (wanted_some rfl rfl h118 rfl) (.pointer (some ⟨b20, 2, none⟩)) w6 (by simp [execOp, Act.eval, h20, go_sem]) ⟨_, rfl, Below.refl _ _, by rintro t' ⟨⟩; rfl⟩
            | 6, ho =>
              obtain rfl := Option.some.inj ho
              obtain ⟨_, h121, rfl⟩ := given_fed hg 121 (by decide +kernel)
              obtain ⟨_, h118, rfl⟩ := given_fed hg 118 (by decide +kernel)
              clear hg
              exact st_yield ho (wanted_some rfl rfl h118 rfl) (.slice sa sn sc) w6 (by simp [execOp, Act.eval, h121, go_sem, hcc.1]) ⟨_, rfl, Below.refl _ _, by rintro t' ⟨⟩; rfl⟩
            | 7, ho =>
              obtain rfl := Option.some.inj ho
              obtain ⟨_, h122, rfl⟩ := given_fed hg 122 (by decide +kernel)
              obtain ⟨_, h118, rfl⟩ := given_fed hg 118 (by decide +kernel)
              clear hg
              have cv := run_string_RB w6 45 5 9 Tryz.underlying45 Tryz.underlying5 Tryz.underlying9 (.slice sa sn sc) Y (HVS.out w6 hb6)
              exact st_yield ho (wanted_some rfl rfl h118 rfl) (.string (str Y)) w6 (by simp [execOp, Act.eval, h122, go_sem, cv, Result.andThen]) ⟨_, rfl, Below.refl _ _, by rintro t' ⟨⟩; rfl⟩
            | 8, ho =>
              obtain rfl := Option.some.inj ho
              obtain ⟨_, h120, rfl⟩ := given_fed hg 120 (by decide +kernel)
              obtain ⟨_, h123, rfl⟩ := given_fed hg 123 (by decide +kernel)
              obtain ⟨_, h118, rfl⟩ := given_fed hg 118 (by decide +kernel)
              clear hg
              exact st_yield ho (wanted_some rfl rfl h118 rfl) (.bool false) w6 (by simp [execOp, Act.eval, h120, h123, go_sem]) ⟨_, rfl, Below.refl _ _, by rintro t' ⟨⟩; rfl⟩
            | 9, ho =>
              obtain rfl := Option.some.inj ho
              obtain ⟨_, h118, rfl⟩ := given_fed hg 118 (by decide +kernel)
              obtain ⟨_, h124, rfl⟩ := given_fed hg 124 (by decide +kernel)
              clear hg
              exact st_yield ho (wanted_none rfl) (.bool false) w6 (by simp [execOp, Act.eval, h118, h124, go_sem]) ⟨_, rfl, Below.refl _ _, by rintro t' ⟨⟩; rfl⟩
            | 10, ho =>
              obtain rfl := Option.some.inj ho
              obtain ⟨_, h125, rfl⟩ := given_fed hg 125 (by decide +kernel)
              clear hg
              exact st_yield ho (wanted_none rfl) (.bool false) w6 (by simp [execOp, Act.eval, h125, go_sem]) ⟨_, rfl, Below.refl _ _, by rintro t' ⟨⟩; rfl⟩
            | 11, ho =>
              obtain rfl := Option.some.inj ho
              have h14 := given_old hg 14 (by decide +kernel)
              obtain ⟨_, h126, rfl⟩ := given_fed hg 126 (by decide +kernel)
              clear hg
              exact st_yield ho (wanted_some rfl rfl h126 rfl) (.pointer (some ⟨s2, 0, none⟩)) w6 (by simp [execOp, Act.eval, h14, go_sem]) ⟨_, rfl, Below.refl _ _, by rintro t' ⟨⟩; rfl⟩
            | 12, ho =>
              obtain rfl := Option.some.inj ho
              obtain ⟨_, h127, rfl⟩ := given_fed hg 127 (by decide +kernel)
              obtain ⟨_, h126, rfl⟩ := given_fed hg 126 (by decide +kernel)
              clear hg
              exact st_enter (w1 := w6) ho (wanted_some rfl rfl h126 rfl) 23 #[.pointer (some ⟨s2, 0, none⟩)] (by simp [execOp, Act.eval, h127, resolve, go_sem]) ((CN.out w6 hb6).mono (by rintro e w7 ⟨a, c, rfl, hb7⟩; exact ⟨_, rfl, _, rfl, hb7, by rintro t' ⟨⟩; exact ⟨a, c, rfl⟩⟩))
            | 13, ho =>
              obtain rfl := Option.some.inj ho
              obtain ⟨v128, h128, p128⟩ := given_fed hg 128 (by decide +kernel)
              obtain ⟨_, h126, rfl⟩ := given_fed hg 126 (by decide +kernel)
              clear hg
              obtain ⟨an, cn, rfl⟩ := p128
              exact st_yield ho (wanted_some rfl rfl h126 rfl) (.int .i64 (n : Int)) w6 (by simp [execOp, Act.eval, h128, go_sem, resolve]) ⟨_, rfl, Below.refl _ _, by rintro t' ⟨⟩; rfl⟩
            | 14, ho =>
              obtain rfl := Option.some.inj ho
              have h4 := given_old hg 4 (by decide +kernel)
              obtain ⟨_, h126, rfl⟩ := given_fed hg 126 (by decide +kernel)
              clear hg
              exact st_yield ho (wanted_some rfl rfl h126 rfl) (.int .i64 (n : Int)) w6 (by simp [execOp, Act.eval, h4, go_sem, hcc.2]) ⟨_, rfl, Below.refl _ _, by rintro t' ⟨⟩; rfl⟩
            | 15, ho =>
              obtain rfl := Option.some.inj ho
              obtain ⟨_, h129, rfl⟩ := given_fed hg 129 (by decide +kernel)
              obtain ⟨_, h130, rfl⟩ := given_fed hg 130 (by decide +kernel)
              obtain ⟨_, h126, rfl⟩ := given_fed hg 126 (by decide +kernel)
              clear hg
              exact st_yield ho (wanted_some rfl rfl h126 rfl) (.bool false) w6 (by simp [execOp, Act.eval, h129, h130, go_sem]) ⟨_, rfl, Below.refl _ _, by rintro t' ⟨⟩; rfl⟩
            | 16, ho =>
              obtain rfl := Option.some.inj ho
              obtain ⟨_, h126, rfl⟩ := given_fed hg 126 (by decide +kernel)
              obtain ⟨_, h131, rfl⟩ := given_fed hg 131 (by decide +kernel)
              clear hg
              exact st_yield ho (wanted_none rfl) (.bool false) w6 (by simp [execOp, Act.eval, h126, h131, go_sem]) ⟨_, rfl, Below.refl _ _, by rintro t' ⟨⟩; rfl⟩
            | 17, ho =>
              obtain rfl := Option.some.inj ho
              obtain ⟨_, h132, rfl⟩ := given_fed hg 132 (by decide +kernel)
              clear hg
              exact st_yield ho (wanted_none rfl) (.bool false) w6 (by simp [execOp, Act.eval, h132, go_sem]) ⟨_, rfl, Below.refl _ _, by rintro t' ⟨⟩; rfl⟩
            | 18, ho =>
              obtain rfl := Option.some.inj ho
              have h19 := given_old hg 19 (by decide +kernel)
              obtain ⟨_, h133, rfl⟩ := given_fed hg 133 (by decide +kernel)
              clear hg
              exact st_yield ho (wanted_some rfl rfl h133 rfl) (.int .i64 (k : Int)) w6 (by simp [execOp, Act.eval, h19, go_sem]) ⟨_, rfl, Below.refl _ _, by rintro t' ⟨⟩; rfl⟩
            | 19, ho =>
              obtain rfl := Option.some.inj ho
              have h4 := given_old hg 4 (by decide +kernel)
              obtain ⟨_, h133, rfl⟩ := given_fed hg 133 (by decide +kernel)
              clear hg
              exact st_yield ho (wanted_some rfl rfl h133 rfl) (.int .i64 (n : Int)) w6 (by simp [execOp, Act.eval, h4, go_sem, hcc.2]) ⟨_, rfl, Below.refl _ _, by rintro t' ⟨⟩; rfl⟩
            | 20, ho =>
              obtain rfl := Option.some.inj ho
              obtain ⟨_, h134, rfl⟩ := given_fed hg 134 (by decide +kernel)
              obtain ⟨_, h135, rfl⟩ := given_fed hg 135 (by decide +kernel)
              obtain ⟨_, h133, rfl⟩ := given_fed hg 133 (by decide +kernel)
              clear hg
              exact st_yield ho (wanted_some rfl rfl h133 rfl) (.bool false) w6 (by simp [execOp, Act.eval, h134, h135, go_sem, hlt]) ⟨_, rfl, Below.refl _ _, by rintro t' ⟨⟩; rfl⟩
            | 21, ho =>
              obtain rfl := Option.some.inj ho
              obtain ⟨_, h133, rfl⟩ := given_fed hg 133 (by decide +kernel)
              obtain ⟨_, h136, rfl⟩ := given_fed hg 136 (by decide +kernel)
              clear hg
              exact st_yield ho (wanted_none rfl) (.bool false) w6 (by simp [execOp, Act.eval, h133, h136, go_sem]) ⟨_, rfl, Below.refl _ _, by rintro t' ⟨⟩; rfl⟩
            | n + 22, ho => simp at ho
          · intro f5 w6 hb6 hv
            have h137 := hv 137 (by decide)
            simp only [VF26] at h137
            have HB6 := Go.Lib.hid (below_to HB25.out (Nat.le_refl _) hb6)
            clear hv hb6 CN HVX HVS HC20
            unfold putAll
            simp only [List.foldl]
            simp only [h137]
            go_simp
            clear h137
            go_wp2_with fail
            go_roundw
            case rel => exact ⟨k + 1, by have := HLT.out; omega, by go_num, HB6.out⟩
            case measure => simp only [intOf]; have := HLT.out; omega
        · obtain rfl : k = n := by omega
          have hbw1 := below_to HBc.out (Nat.le_refl _) hbw
          have CZ := puts_c b4 (b4 + 1) k sz 7 (keptC HY.out.1 hbw1) (keptC HY.out.2 hbw1) HN.out.1.2 HN.out.2.1 (by omega)
          rw [show ((7 : Nat) : Int) = 7 from rfl] at CZ
          have CZ := Go.Lib.hid CZ
          have HBw := Go.Lib.hid hbw1
          have HWw := Go.Lib.hid (HWc.out.below hbw)
          clear hbw hbw1 hlt hk
          go_wp2_with fail
          refine CZ.out.mono ?_
          rintro e wy ⟨vy, ply, rfl, hoy, hpy, hby⟩
          have HBy := Go.Lib.hid (below_to HBw.out (Nat.le_refl _) hby)
          have CX := Go.Lib.hid (apply_n (HWw.out.below hby) (HT.out.below (below_to HB1.out (Nat.le_refl _) HBy.out)) HM9.out hoy.rpt hpy HN.out.1 HN.out.2.1 (.inr ⟨100, rfl⟩) (by omega) (by omega))
          clear hoy hpy hby CZ
          go_wp2_with fail
          refine CX.out.mono ?_
          rintro e wz ⟨rfl, -, -, hbz, -⟩
          have HBz := Go.Lib.hid (below_to HB1.out (Nat.le_refl _) (HBy.out.trans (hbz.mono HB8.out.size)))
          clear hbz CX
          go_wp2_with fail
          go_ret
          exact ⟨rfl, HBz.out⟩
  · obtain ⟨gf, cf, rfl, -, -, -, -, -⟩ := hof.form (by unfold byI; rw [List.length_replicate]; omega)
    have hcell : wb.cell? ⟨gf, 0, none⟩ = some (.int .u8 1) := by
      have h := hof.cell 0 (by unfold byI; rw [List.length_replicate]; omega)
      rw [h]
      unfold byI
      rw [List.getElem_replicate]
      rfl
    have hlenf : (byI sz 1 0).length = sz + 1 := by unfold byI; rw [List.length_replicate]
    have hszI : (0 : Int) < ((sz + 1 : Nat) : Int) := by omega
    rw [hlenf]
    have HBb := Go.Lib.hid (below_to HBa.out (Nat.le_refl _) hbb)
    have HWb := Go.Lib.hid (HWa.out.below hbb)
    have CQ := puts_c b4 (b4 + 1) n sz 1 (keptC HY.out.1 HBb.out) (keptC HY.out.2 HBb.out) HN.out.1.2 HN.out.2.1 (by omega)
    rw [show ((1 : Nat) : Int) = 1 from rfl] at CQ
    have CQ := Go.Lib.hid CQ
    clear hof hbb CG
    go_wp2_with fail
    clear hcell hlenf hszI
    refine CQ.out.mono ?_
    rintro e wc ⟨vc, plc, rfl, hoc, hpc, hbc⟩
    obtain ⟨ac, qc, rfl⟩ := hoc.form
    have hpl := hpc.1
    rw [hpl]
    have HOC := Go.Lib.hid hoc
    have HPC := Go.Lib.hid hpc
    have HBc := Go.Lib.hid (below_to HBb.out (Nat.le_refl _) hbc)
    have HWc := Go.Lib.hid (HWb.out.below hbc)
    clear hoc hpc hbc hpl CQ
    go_wp2_with fail
    go_loopw [104] (fun i wr => ∃ k : Nat, k ≤ n ∧ i = .int .i64 (k : Int) ∧ Below wc.heap.size wc wr) (fun i _ => n - (intOf i).toNat)
    case atStart => exact ⟨0, by omega, rfl, Below.refl _ _⟩
    case round =>
      obtain ⟨k, hk, rfl, hbw⟩ := hrel
      by_cases hlt : k < n
      · have hkp : k < plc.length := by rw [HPC.out.1]; exact hlt
        have hrow := (HOC.out.below hbw).rpt
        rw [HPC.out.1] at hrow
        obtain ⟨gp, rfl, -, z0, z1, z2⟩ := hrow.at k hkp
        obtain ⟨e1, e2, e3⟩ := HPC.out.2 k hkp
        have htx := (HOC.out.below hbw).tx plc[k] (List.getElem_mem hkp)
        rw [e3] at htx
        rw [e1] at z0
        rw [e2] at z1
        generalize plc[k].2.2.1 = sl at *
        obtain ⟨sa, sn, sc⟩ := sl
        unfold slV at z2 htx
        simp only at z2 htx
        clear e1 e2 e3 hrow
        have hkI : (k : Int) < (n : Int) := by omega
        have hal := newB wr (.cells #[.string (nmI k), .bool false, .slice sa sn sc] 47)
        obtain ⟨x0, x1, x2⟩ := cell_of3 (heap_alloc_new wr (.cells #[.string (nmI k), .bool false, .slice sa sn sc] 47))
        have hb2 := below_to hbw (Nat.le_refl _) hal
        have CG := Go.Lib.hid (get_ok (HWc.out.below hb2) (nmI k) (byI sz 1 k) (FN_look n sz 1 (by have := HN.out; omega) k hlt))
        have HLT := Go.Lib.hid hlt
        have HKI := Go.Lib.hid hkI
        have HB2 := Go.Lib.hid hb2
        have HTX := Go.Lib.hid (htx.below hal)
        have HX2 := Go.Lib.hid x2
        obtain ⟨b20, hb20⟩ : ∃ b20, b20 = wr.heap.size := ⟨_, rfl⟩
        have HB20 := Go.Lib.hid hb20
        obtain ⟨Y, hY⟩ : ∃ Y, Y = byI sz 1 k := ⟨_, rfl⟩
        rw [← hY] at CG HTX
        clear hkp htx hal hb2 hbw hlt hk hY hb20
        go_wp2_with fail
        refine CG.out.mono ?_
        rintro e w5 ⟨vx, rfl, hox, hb5⟩
        obtain ⟨ax, nx, cx, rfl⟩ : ∃ a n c, vx = .slice a n c := by obtain ⟨a, c, h, -⟩ := hox.rb; exact ⟨a, _, c, h⟩
        have hb25 := below_to HB2.out (Nat.le_refl _) hb5
        have HB25 := Go.Lib.hid hb25
        have HVX := Go.Lib.hid (show ∀ W, Below w5.heap.size w5 W → RB W (.slice ax nx cx) Y from fun W hW => (hox.below hW).rb)
        have HVS := Go.Lib.hid (show ∀ W, Below w5.heap.size w5 W → RB W (.slice sa sn sc) Y from fun W hW => ((HTX.out.below hb5).below hW).1)
        have HC20 := Go.Lib.hid (show ∀ W, Below w5.heap.size w5 W → W.cell? ⟨b20, 2, none⟩ = some (.slice sa sn sc) ∧ W.cell? ⟨b4, 0, none⟩ = some (.int .i64 (n : Int)) from fun W hW => ⟨by rw [HB20.out]; exact keptC (keptC HX2.out hb5) hW, keptC HY.out.1 (below_to (below_to HBc.out (Nat.le_refl _) hb25) (Nat.le_refl _) hW)⟩)
        have CN := Go.Lib.hid (show ∀ W, Below w5.heap.size w5 W → Calls Tryz.prog 23 #[.pointer (some ⟨s2, 0, none⟩)] W fun e w' => ∃ a c, e = .returned (.slice a n c) ∧ Below W.heap.size W w' from fun W hW => by
          refine (names_ok ((HWc.out.below hb25).below hW)).mono ?_
          rintro e w' ⟨v, rfl, hv, hb⟩
          obtain ⟨a, c, rfl, -⟩ := hv.rv.form
          rw [List.length_map, FN_len]
          exact ⟨a, c, rfl, hb⟩)
        clear hox hb5 hb25 CG x0 x1 x2 z0 z1 z2
        go_upto_region 26 with (fail)
        rw [← HB20.out]
        refine wp_region_each (by kernel_rfl) (VF26 s2 b20 b4 n k (.slice ax nx cx) (.slice sa sn sc) Y) (VF26_below s2 b20 b4 n k (.slice ax nx cx) (.slice sa sn sc) Y) (by decide +kernel) (by decide +kernel) (by rfl) [116, 117, 118, 119, 120, 121, 122, 123, 124, 125, 126, 127, 128, 129, 130, 131, 132, 133, 134, 135, 136, 137] (by rfl) ?_ ?_
        · intro i o ho a w6 hb6 hlen hg
          have hcc := HC20.out w6 hb6
          have hlt := HLT.out
          match i, ho with
          | 0, ho =>
            obtain rfl := Option.some.inj ho
            have h22 := given_old hg 22 (by decide +kernel)
            clear hg
            exact st_yield ho (wanted_none rfl) (.int .i64 0) w6 (by simp [execOp, Act.eval, h22, go_sem]) ⟨_, rfl, Below.refl _ _, by rintro t' ⟨⟩; rfl⟩
          | 1, ho =>
            obtain rfl := Option.some.inj ho
            obtain ⟨_, h116, rfl⟩ := given_fed hg 116 (by decide +kernel)
            clear hg
            exact st_yield ho (wanted_none rfl) (.bool false) w6 (by simp [execOp, Act.eval, h116, go_sem]) ⟨_, rfl, Below.refl _ _, by rintro t' ⟨⟩; rfl⟩
          | 2, ho =>
            obtain rfl := Option.some.inj ho
            obtain ⟨_, h117, rfl⟩ := given_fed hg 117 (by decide +kernel)
            clear hg
            exact st_yield ho (wanted_none rfl) (.bool false) w6 (by simp [execOp, Act.eval, h117, go_sem]) ⟨_, rfl, Below.refl _ _, by rintro t' ⟨⟩; rfl⟩
          | 3, ho =>
            obtain rfl := Option.some.inj ho
            have h21 := given_old hg 21 (by decide +kernel)
            obtain ⟨_, h118, rfl⟩ := given_fed hg 118 (by decide +kernel)
            clear hg
            exact st_yield ho (wanted_some rfl rfl h118 rfl) (.slice ax nx cx) w6 (by simp [execOp, Act.eval, h21, go_sem]) ⟨_, rfl, Below.refl _ _, by rintro t' ⟨⟩; rfl⟩
          | 4, ho =>
            obtain rfl := Option.some.inj ho
            obtain ⟨_, h119, rfl⟩ := given_fed hg 119 (by decide +kernel)
            obtain ⟨_, h118, rfl⟩ := given_fed hg 118 (by decide +kernel)
            clear hg
            have cv := run_string_RB w6 45 5 9 Tryz.underlying45 Tryz.underlying5 Tryz.underlying9 (.slice ax nx cx) Y (HVX.out w6 hb6)
            exact st_yield ho (wanted_some rfl rfl h118 rfl) (.string (str Y)) w6 (by simp [execOp, Act.eval, h119, go_sem, cv, Result.andThen]) ⟨_, rfl, Below.refl _ _, by rintro t' ⟨⟩; rfl⟩
          | 5, ho =>
            obtain rfl := Option.some.inj ho
            have h20 := given_old hg 20 (by decide +kernel)
            obtain ⟨_, h118, rfl⟩ := given_fed hg 118 (by decide +kernel)
            clear hg
            exact st_yield ho (wanted_some rfl rfl h118 rfl) (.pointer (some ⟨b20, 2, none⟩)) w6 (by simp [execOp, Act.eval, h20, go_sem]) ⟨_, rfl, Below.refl _ _, by rintro t' ⟨⟩; rfl⟩
          | 6, ho =>
            obtain rfl := Option.some.inj ho
            obtain ⟨_, h121, rfl⟩ := given_fed hg 121 (by decide +kernel)
            obtain ⟨_, h118, rfl⟩ := given_fed hg 118 (by decide +kernel)
            clear hg
            exact st_yield ho (wanted_some rfl rfl h118 rfl) (.slice sa sn sc) w6 (by simp [execOp, Act.eval, h121, go_sem, hcc.1]) ⟨_, rfl, Below.refl _ _, by rintro t' ⟨⟩; rfl⟩
          | 7, ho =>
            obtain rfl := Option.some.inj ho
            obtain ⟨_, h122, rfl⟩ := given_fed hg 122 (by decide +kernel)
            obtain ⟨_, h118, rfl⟩ := given_fed hg 118 (by decide +kernel)
            clear hg
            have cv := run_string_RB w6 45 5 9 Tryz.underlying45 Tryz.underlying5 Tryz.underlying9 (.slice sa sn sc) Y (HVS.out w6 hb6)
            exact st_yield ho (wanted_some rfl rfl h118 rfl) (.string (str Y)) w6 (by simp [execOp, Act.eval, h122, go_sem, cv, Result.andThen]) ⟨_, rfl, Below.refl _ _, by rintro t' ⟨⟩; rfl⟩
          | 8, ho =>
            obtain rfl := Option.some.inj ho
            obtain ⟨_, h120, rfl⟩ := given_fed hg 120 (by decide +kernel)
            obtain ⟨_, h123, rfl⟩ := given_fed hg 123 (by decide +kernel)
            obtain ⟨_, h118, rfl⟩ := given_fed hg 118 (by decide +kernel)
            clear hg
            exact st_yield ho (wanted_some rfl rfl h118 rfl) (.bool false) w6 (by simp [execOp, Act.eval, h120, h123, go_sem]) ⟨_, rfl, Below.refl _ _, by rintro t' ⟨⟩; rfl⟩
          | 9, ho =>
            obtain rfl := Option.some.inj ho
            obtain ⟨_, h118, rfl⟩ := given_fed hg 118 (by decide +kernel)
            obtain ⟨_, h124, rfl⟩ := given_fed hg 124 (by decide +kernel)
            clear hg
            exact st_yield ho (wanted_none rfl) (.bool false) w6 (by simp [execOp, Act.eval, h118, h124, go_sem]) ⟨_, rfl, Below.refl _ _, by rintro t' ⟨⟩; rfl⟩
          | 10, ho =>
            obtain rfl := Option.some.inj ho
            obtain ⟨_, h125, rfl⟩ := given_fed hg 125 (by decide +kernel)
            clear hg
            exact st_yield ho (wanted_none rfl) (.bool false) w6 (by simp [execOp, Act.eval, h125, go_sem]) ⟨_, rfl, Below.refl _ _, by rintro t' ⟨⟩; rfl⟩
          | 11, ho =>
            obtain rfl := Option.some.inj ho
            have h14 := given_old hg 14 (by decide +kernel)
            obtain ⟨_, h126, rfl⟩ := given_fed hg 126 (by decide +kernel)
            clear hg
            exact st_yield ho (wanted_some rfl rfl h126 rfl) (.pointer (some ⟨s2, 0, none⟩)) w6 (by simp [execOp, Act.eval, h14, go_sem]) ⟨_, rfl, Below.refl _ _, by rintro t' ⟨⟩; rfl⟩
          | 12, ho =>
            obtain rfl := Option.some.inj ho
            obtain ⟨_, h127, rfl⟩ := given_fed hg 127 (by decide +kernel)
            obtain ⟨_, h126, rfl⟩ := given_fed hg 126 (by decide +kernel)
            clear hg
            exact st_enter (w1 := w6) ho (wanted_some rfl rfl h126 rfl) 23 #[.pointer (some ⟨s2, 0, none⟩)] (by simp [execOp, Act.eval, h127, resolve, go_sem]) ((CN.out w6 hb6).mono (by rintro e w7 ⟨a, c, rfl, hb7⟩; exact ⟨_, rfl, _, rfl, hb7, by rintro t' ⟨⟩; exact ⟨a, c, rfl⟩⟩))
          | 13, ho =>
            obtain rfl := Option.some.inj ho
            obtain ⟨v128, h128, p128⟩ := given_fed hg 128 (by decide +kernel)
            obtain ⟨_, h126, rfl⟩ := given_fed hg 126 (by decide +kernel)
            clear hg
            obtain ⟨an, cn, rfl⟩ := p128
            exact st_yield ho (wanted_some rfl rfl h126 rfl) (.int .i64 (n : Int)) w6 (by simp [execOp, Act.eval, h128, go_sem, resolve]) ⟨_, rfl, Below.refl _ _, by rintro t' ⟨⟩; rfl⟩
          | 14, ho =>
            obtain rfl := Option.some.inj ho
            have h4 := given_old hg 4 (by decide +kernel)
            obtain ⟨_, h126, rfl⟩ := given_fed hg 126 (by decide +kernel)
            clear hg
            exact st_yield ho (wanted_some rfl rfl h126 rfl) (.int .i64 (n : Int)) w6 (by simp [execOp, Act.eval, h4, go_sem, hcc.2]) ⟨_, rfl, Below.refl _ _, by rintro t' ⟨⟩; rfl⟩
          | 15, ho =>
            obtain rfl := Option.some.inj ho
            obtain ⟨_, h129, rfl⟩ := given_fed hg 129 (by decide +kernel)
            obtain ⟨_, h130, rfl⟩ := given_fed hg 130 (by decide +kernel)
            obtain ⟨_, h126, rfl⟩ := given_fed hg 126 (by decide +kernel)
            clear hg
            exact st_yield ho (wanted_some rfl rfl h126 rfl) (.bool false) w6 (by simp [execOp, Act.eval, h129, h130, go_sem]) ⟨_, rfl, Below.refl _ _, by rintro t' ⟨⟩; rfl⟩
          | 16, ho =>
            obtain rfl := Option.some.inj ho
            obtain ⟨_, h126, rfl⟩ := given_fed hg 126 (by decide +kernel)
            obtain ⟨_, h131, rfl⟩ := given_fed hg 131 (by decide +kernel)
            clear hg
            exact st_yield ho (wanted_none rfl) (.bool false) w6 (by simp [execOp, Act.eval, h126, h131, go_sem]) ⟨_, rfl, Below.refl _ _, by rintro t' ⟨⟩; rfl⟩
          | 17, ho =>
            obtain rfl := Option.some.inj ho
            obtain ⟨_, h132, rfl⟩ := given_fed hg 132 (by decide +kernel)
            clear hg
            exact st_yield ho (wanted_none rfl) (.bool false) w6 (by simp [execOp, Act.eval, h132, go_sem]) ⟨_, rfl, Below.refl _ _, by rintro t' ⟨⟩; rfl⟩
          | 18, ho =>
            obtain rfl := Option.some.inj ho
            have h19 := given_old hg 19 (by decide +kernel)
            obtain ⟨_, h133, rfl⟩ := given_fed hg 133 (by decide +kernel)
            clear hg
            exact st_yield ho (wanted_some rfl rfl h133 rfl) (.int .i64 (k : Int)) w6 (by simp [execOp, Act.eval, h19, go_sem]) ⟨_, rfl, Below.refl _ _, by rintro t' ⟨⟩; rfl⟩
          | 19, ho =>
            obtain rfl := Option.some.inj ho
            have h4 := given_old hg 4 (by decide +kernel)
            obtain ⟨_, h133, rfl⟩ := given_fed hg 133 (by decide +kernel)
            clear hg
            exact st_yield ho (wanted_some rfl rfl h133 rfl) (.int .i64 (n : Int)) w6 (by simp [execOp, Act.eval, h4, go_sem, hcc.2]) ⟨_, rfl, Below.refl _ _, by rintro t' ⟨⟩; rfl⟩
          | 20, ho =>
            obtain rfl := Option.some.inj ho
            obtain ⟨_, h134, rfl⟩ := given_fed hg 134 (by decide +kernel)
            obtain ⟨_, h135, rfl⟩ := given_fed hg 135 (by decide +kernel)
            obtain ⟨_, h133, rfl⟩ := given_fed hg 133 (by decide +kernel)
            clear hg
            exact st_yield ho (wanted_some rfl rfl h133 rfl) (.bool false) w6 (by simp [execOp, Act.eval, h134, h135, go_sem, hlt]) ⟨_, rfl, Below.refl _ _, by rintro t' ⟨⟩; rfl⟩
          | 21, ho =>
            obtain rfl := Option.some.inj ho
            obtain ⟨_, h133, rfl⟩ := given_fed hg 133 (by decide +kernel)
            obtain ⟨_, h136, rfl⟩ := given_fed hg 136 (by decide +kernel)
            clear hg
            exact st_yield ho (wanted_none rfl) (.bool false) w6 (by simp [execOp, Act.eval, h133, h136, go_sem]) ⟨_, rfl, Below.refl _ _, by rintro t' ⟨⟩; rfl⟩
          | n + 22, ho => simp at ho
        · intro f5 w6 hb6 hv
          have h137 := hv 137 (by decide)
          simp only [VF26] at h137
          have HB6 := Go.Lib.hid (below_to HB25.out (Nat.le_refl _) hb6)
          clear hv hb6 CN HVX HVS HC20
          unfold putAll
          simp only [List.foldl]
          simp only [h137]
          go_simp
          clear h137
          go_wp2_with fail
          go_roundw
          case rel => exact ⟨k + 1, by have := HLT.out; omega, by go_num, HB6.out⟩
          case measure => simp only [intOf]; have := HLT.out; omega
      · obtain rfl : k = n := by omega
        have hbw1 := below_to HBc.out (Nat.le_refl _) hbw
        have CZ := puts_c b4 (b4 + 1) k sz 7 (keptC HY.out.1 hbw1) (keptC HY.out.2 hbw1) HN.out.1.2 HN.out.2.1 (by omega)
        rw [show ((7 : Nat) : Int) = 7 from rfl] at CZ
        have CZ := Go.Lib.hid CZ
        have HBw := Go.Lib.hid hbw1
        have HWw := Go.Lib.hid (HWc.out.below hbw)
        clear hbw hbw1 hlt hk
        go_wp2_with fail
        refine CZ.out.mono ?_
        rintro e wy ⟨vy, ply, rfl, hoy, hpy, hby⟩
        have HBy := Go.Lib.hid (below_to HBw.out (Nat.le_refl _) hby)
        have CX := Go.Lib.hid (apply_n (HWw.out.below hby) (HT.out.below (below_to HB1.out (Nat.le_refl _) HBy.out)) HM9.out hoy.rpt hpy HN.out.1 HN.out.2.1 (.inr ⟨1, rfl⟩) (by omega) (by omega))
        clear hoy hpy hby CZ
        go_wp2_with fail
        refine CX.out.mono ?_
        rintro e wz ⟨rfl, -, -, hbz, -⟩
        have HBz := Go.Lib.hid (below_to HB1.out (Nat.le_refl _) (HBy.out.trans (hbz.mono HB8.out.size)))
        clear hbz CX
        go_wp2_with fail
        go_ret
        exact ⟨rfl, HBz.out⟩

/-! ### THE ROW -/
noncomputable def laidWorld (os : Os) : World := World.doorLaid Tryz.prog 400 os
theorem laid_met (os : Os) : laidMetH Tryz.prog Rows.storeFuseRow.laid ((laidWorld os).forCall (fun _ _ => 0) ⟨#[], #[.int .i64 0, .int .i64 0, .int .i64 0, .slice none 0 0], []⟩).memory :=
  laidMetH_of_parts3 (fuel := 8) (laidMet_of_run' 8 (by kernel_rfl) (by kernel_rfl)) (by kernel_rfl) (by kernel_rfl)
theorem reads (os : Os) {H : Type} (enc : TypeId × Value → H) : ∃ places, DataW.whole enc Tryz.prog ((laidWorld os).forCall (fun _ _ => 0) ⟨#[], #[.int .i64 0, .int .i64 0, .int .i64 0, .slice none 0 0], []⟩).memory Tryz.f8.params.toList Rows.storeFuseSpec.vars false (Array.toList #[.int .i64 0, .int .i64 0, .int .i64 0, .slice none 0 0]) 8 = some ([.lit (.int .i64 0), .lit (.int .i64 0), .lit (.int .i64 0), .nil], [], places) :=
  ⟨[], by kernel_rfl⟩

set_option maxRecDepth 100000 in
theorem lifted (os : Os) (started : os.Started) (H : Type) (enc : TypeId × Value → H) (F : Stop.Interp) :
    ReturnsInHanded {} Tryz.checked os 8 .any ((OpenSpec.ofChange Rows.storeFuseSpec).preRow enc Tryz.prog Tryz.f8 Rows.storeFuseRow.domain false Rows.storeFuseRow.laid) (((OpenSpec.ofChange Rows.storeFuseSpec).at F).post enc Tryz.prog Tryz.f8 false true false false) := by
  obtain ⟨places, hx⟩ := reads os enc
  refine returnsInHanded_of_row (C := Tryz.checked) (s := OpenSpec.ofChange Rows.storeFuseSpec) own started (by kernel_rfl) Tryz.func8
    (witness_row_at (enc := enc) (C := Tryz.checked) false (laidWorld os) #[.int .i64 0, .int .i64 0, .int .i64 0, .slice none 0 0] rfl (by kernel_rfl) (by kernel_rfl) (by kernel_rfl)
      (OpenSpec.preRow_of_cond 8 hx (by kernel_rfl) (fun k hk => by cases hk) (by kernel_rfl) (laid_met os))) ?_
  intro W base args ds gs before hval0 hW _ _ _ hL _ _
  have hval : ∀ (j : Nat) t v, Tryz.f8.params[j]? = some t → args[j]? = some v → Value.okWide Tryz.prog W .any base t v := hval0
  have hW' := hW
  obtain ⟨p, q, hA0, hV, rfl, hfz, hnd⟩ := hW
  have hA : DataW.TrodAll enc Tryz.prog W 0 (fun _ => true) true Tryz.f8.params.toList args.toList ds p := hA0
  rw [Tryz.params8] at hA hval
  obtain ⟨v0, vs0, d0, ds0, p0, q0, hargs, rfl, rfl, h0, r0⟩ := trodAll_cons hA
  obtain ⟨v1, vs1, d1, ds1, p1, q1, rfl, rfl, rfl, h1, r1⟩ := trodAll_cons r0
  obtain ⟨v2, vs2, d2, ds2, p2, q2, rfl, rfl, rfl, h2, r2⟩ := trodAll_cons r1
  obtain ⟨v3, vs3, d3, ds3, p3, q3, rfl, rfl, rfl, h3, r3⟩ := trodAll_cons r2
  obtain ⟨rfl, rfl, rfl⟩ := trodAll_nil r3
  obtain rfl : args = #[v0, v1, v2, v3] := by cases args; simp_all
  obtain ⟨rfl, rfl⟩ := trodVars_none hV
  have kk0 := h0
  have lt0 : ∀ x ∈ p0, x.block < W.heap.size := by obtain ⟨m, hm⟩ := kk0; exact DataW.trod_lt m _ _ _ hm
  have kk1 := h1
  have lt1 : ∀ x ∈ p1, x.block < W.heap.size := by obtain ⟨m, hm⟩ := kk1; exact DataW.trod_lt m _ _ _ hm
  have kk2 := h2
  have lt2 : ∀ x ∈ p2, x.block < W.heap.size := by obtain ⟨m, hm⟩ := kk2; exact DataW.trod_lt m _ _ _ hm
  have kk3 := h3
  have lt3 : ∀ x ∈ p3, x.block < W.heap.size := by obtain ⟨m, hm⟩ := kk3; exact DataW.trod_lt m _ _ _ hm
  obtain ⟨a0, rfl, rfl, rfl, w0⟩ := open_int Tryz.underlying3 (hval 0 3 v0 rfl rfl) h0
  obtain ⟨a1, rfl, rfl, rfl, w1⟩ := open_int Tryz.underlying3 (hval 1 3 v1 rfl rfl) h1
  obtain ⟨a2, rfl, rfl, rfl, w2⟩ := open_int Tryz.underlying3 (hval 2 3 v2 rfl rfl) h2
  obtain ⟨a3, len3, cap3, rfl⟩ := okWide_slice Tryz.underlying32 (hval 3 32 v3 rfl rfl)
  obtain ⟨l3, w3⟩ := open_zb Tryz.underlying32 Tryz.underlying4 (by kernel_rfl) h3
  clear hA0 hval0
  refine (walk W hL a0 w0 a1 w1 a2 w2 a3 len3 cap3 l3 w3).mono fun e W' ⟨he, bel⟩ => ?_
  subst he
  exact ⟨_, rfl, _, _, _, [], _, [], hW', trodAll_mk1 (shut_bool Tryz.underlying4 _), (trodAll_cons_mk (Below.trod laidOut (by kernel_rfl) (of_decide_eq_true (by kernel_rfl)) kk0 bel lt0) (trodAll_cons_mk (Below.trod laidOut (by kernel_rfl) (of_decide_eq_true (by kernel_rfl)) kk1 bel lt1) (trodAll_cons_mk (Below.trod laidOut (by kernel_rfl) (of_decide_eq_true (by kernel_rfl)) kk2 bel lt2) (trodAll_cons_mk (Below.trod laidOut (by kernel_rfl) (of_decide_eq_true (by kernel_rfl)) kk3 bel lt3) trodAll_mk0)))), rfl, bel.frame _, fun h => by cases h⟩

theorem said : Rows.StoreFuseSaid :=
  OpenClaim.holds_of_cond 8 Tryz.f8 rfl rfl rfl rfl rfl rfl rfl ⟨rfl, rfl, rfl, rfl, rfl⟩ rfl rfl rfl rfl rfl (by kernel_rfl) Tryz.func8 (by kernel_rfl)
    (of_decide_eq_true (by kernel_rfl)) (by unfold Func.isWrapper; first | (rw [if_pos (by decide +kernel)]; kernel_rfl) | (rw [if_neg (by decide +kernel)]; exact ⟨rfl, rfl⟩))
    (fun os started H enc _ F => by rw [OpenClaim.pre_eq_preRow]; exact lifted os started H enc F)

/-- No parameter wants a stand-in; the program's own looks are off: what the card asks. -/
theorem plain (f : FuncId) (fn : Func) (hf : Tryz.pinned.checked.prog.funcNamed "loess/loesslaw15.StoreFuse" = some f) (hfn : Tryz.pinned.checked.prog.funcs[f]? = some fn) :
    false = Tryz.pinned.checked.prog.looks [] ∧ ∀ (j : Nat) t, fn.params[j]? = some t → Tryz.pinned.checked.prog.wantsStandIn t = false := by
  obtain rfl : f = 8 := Option.some.inj ((show Tryz.prog.funcNamed "loess/loesslaw15.StoreFuse" = some 8 by kernel_rfl).symm.trans hf) |>.symm
  obtain rfl : fn = Tryz.f8 := (Option.some.inj (Tryz.func8.symm.trans hfn)).symm
  refine ⟨by kernel_rfl, fun j t ht => ?_⟩
  rw [Tryz.params8] at ht
  have hm : t ∈ [3, 3, 3, 32] := by simpa using Array.mem_of_getElem? ht
  have hall : ([3, 3, 3, 32].all fun u => !Tryz.prog.wantsStandIn u) = true := by kernel_rfl
  exact (show Tryz.prog.wantsStandIn t = false by simpa using List.all_eq_true.1 hall t hm)

/-- THE CARD. -/
theorem proved : Rows.StoreFuseCardSaid :=
  Claim7.holds_tied_plain_at .later [] _ _ _ _ said (fun _ h => by cases h) (by kernel_rfl) (fun _ h => by cases h) storeFuse_row_tie rfl ⟨rfl, rfl⟩ (by kernel_rfl) rfl plain (by kernel_rfl)
end Go.Proofs.YtnalokjnbccjnaaGreatDoor.storeFuse
