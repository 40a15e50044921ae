/- StoreOwn: what is handed in and told is nobody else's; an Apply of nothing writes nothing; one that may not be changes nothing: for every input the law returns true. -/
import Derived.Test.YtnalokjnbccjnaaGreatDoorCards
import Derived.Test.YtnalokjnbccjnaaGreatDoorTie
import Derived.WalkKit
import Derived.ProofKit
import Derived.OpenShut
import Derived.ShutString
import Derived.ChangeOld
import Derived.Below
import Derived.Test.YtnalokjnbccjnaaGreatDoorM13
import Derived.Test.YtnalokjnbccjnaaGreatDoorM14
import Derived.Deep.DeepHandedRow
import Derived.SevenTiedAt
import Derived.LaidMore
import Derived.Stop.Joined
namespace Go.Proofs.YtnalokjnbccjnaaGreatDoor.storeOwn
open Go.ChangeShapes Go.WideShapes Go.ChangeAt Go.RowKit
open Go.ChangeMaps (open_string shut_string)
set_option linter.unusedVariables false

theorem own : ownKnob Tryz.prog.godebug = none := by kernel_rfl
theorem laidOut : laidOutB Tryz.prog = true := by kernel_rfl

/-- WHAT THE WALK IS TOLD OF A SLICE OF INTEGERS THAT CAME IN: it is nil; or it leads to a row of 'cap' cells, the numbers 'zs' (the first 'len' are its elements, the rest its spare room), each fitting its kind. -/
def IsRow (k : IntKind) (w : World) (a : Option Addr) (len cap : Nat) (zs : List Int) : Prop :=
  (a = none ∧ len = 0 ∧ cap = 0 ∧ zs = []) ∨
  ∃ x, a = some x ∧ len ≤ cap ∧ cap ≤ maxLen ∧ zs.length = cap ∧ (∀ i, i < zs.length → w.cell? (x.add i) = some (.int k (zs.getD i 0))) ∧ ∀ n ∈ zs, (Lit.int k n).wf = true

theorem tab_of {w : World} (L : laidMetH Tryz.prog Rows.storeOwnRow.laid w) : Tab w := Tab.of (Lib.tabIs_of_head (rest := []) gNib (by kernel_rfl) Tryz.underlying199 Tryz.underlying155 (by kernel_rfl) (by kernel_rfl) L)
theorem byte_wrap (x : UInt8) : ((x.toNat : Int) + 1) % 256 = ((x + 1).toNat : Int) := by
  rw [UInt8.toNat_add]
  have := x.toNat_lt
  show _ = (((x.toNat + 1) % 256 : Nat) : Int)
  omega
theorem byte_wrap2 (x : UInt8) : ((x.toNat : Int) + 2) % 256 = ((x + 2).toNat : Int) := by
  rw [UInt8.toNat_add]
  have := x.toNat_lt
  show _ = (((x.toNat + 2) % 256 : Nat) : Int)
  omega
abbrev nF : ByteArray := ⟨#[102]⟩
abbrev nE : ByteArray := ⟨#[]⟩
theorem done_f (sl : Option Addr × Nat × Nat) (b : List UInt8) : doneL [] [(nF, false, sl, b)] = [(nF, b)] := rfl
theorem okp_f (sl : Option Addr × Nat × Nat) (b : List UInt8) (hb : b.length ≤ 4000) : OkP [(nF, false, sl, b)] := by
  intro z hz
  rw [List.mem_singleton.1 hz]
  exact ⟨(by decide : 1 ≤ nF.size), (by decide : nF.size ≤ 20), hb⟩
theorem mis_two (sl sl' : Option Addr × Nat × Nat) (b : List UInt8) : [((nF, false, sl, b) : PutT), (nE, false, sl', [])].any misP = true := by
  rw [List.any_cons, List.any_cons]
  have : misP (nE, false, sl', []) = true := by
    unfold misP
    simp only []
    rw [decide_eq_true (show nE.size < 1 from by decide)]
    rfl
  rw [this]
  simp
theorem gone_len (q : ByteArray) (sl : Option Addr × Nat × Nat) (b : List UInt8) : (doneL [(nF, b)] [(q, true, sl, [])]).length ≤ 32 := by
  show (putGo q [] true [(nF, b)]).length ≤ 32
  unfold putGo
  split <;> simp [putGo]

set_option maxHeartbeats 4000000 in
set_option maxRecDepth 100000 in
theorem walk (a0 : Option Addr) (len0 cap0 : Nat) (z0 : List Int) (a1 : ByteArray) (w : World) (L : laidMetH Tryz.prog Rows.storeOwnRow.laid w) (w0 : IsRow .u8 w a0 len0 cap0 z0) (w1 : a1.size ≤ maxLen) :
    Calls Tryz.prog 6 #[.slice a0 len0 cap0, .string a1] w fun e w' => e = .returned (.bool true) ∧ Below w.heap.size w w' := by
  have hT := tab_of L
  obtain ⟨la, hla⟩ := rb_of_row w0
  have L0 := Go.Lib.hid fun W => lcut_c a1 25 W w1 (by omega)
  clear L w0 w1
  have C0 := Go.Lib.hid (begun_c w hT)
  have HT := Go.Lib.hid hT; clear hT
  go_enter Tryz.func6, Tryz.ntmps6
  go_wp2_with fail
  refine C0.out.mono ?_
  rintro e w1 ⟨rfl, hb1⟩
  have hla1 := hla.below hb1
  have HB1 := Go.Lib.hid hb1
  clear hb1 C0 hla
  go_wp2_with fail
  refine (short_c _ la 100 _ hla1 (by omega)).mono ?_
  rintro e w1' ⟨⟨va, rfl, hva⟩, rfl⟩
  have hA : (la.take 100).length ≤ 100 := List.length_take_le _ _
  obtain ⟨A, eA⟩ : ∃ A, A = la.take 100 := ⟨_, rfl⟩
  rw [← eA] at hva hA
  have HVA := Go.Lib.hid hva
  have HA := Go.Lib.hid hA
  clear eA hla1 hva hA
  go_wp2_with (first
    | (with_reducible show wpList _ _ _ (⟨some 26, _, _, _, _, _⟩ :: _) _ _; go_must (refine wpList_append_RB rfl (.const (.slice none 0 0)) (.tmp 25) 45 rfl w1.heap.size 5 Tryz.underlying45 info8 (.slice none 0 0) va [] A rfl rfl (Own.nil _ _ _) HVA.out (by have := HA.out; simp only [List.length_nil]; omega) (Nat.le_refl _) ?_); intro v2 w2 hown2 hg2; go_must (have HO2 := Go.Lib.hid hown2); go_must (have HB2 := Go.Lib.hid (show Below w1.heap.size w1 w2 from (Below.refl _ _).grown hg2 (Nat.le_refl _) (fun j hj => by simp [Value.ownBlock] at hj))); go_must (clear hown2 hg2))
    | fail)
  refine (L0.out _).mono ?_
  rintro e w2' ⟨rfl, rfl⟩
  rw [List.nil_append] at HO2
  obtain ⟨NM, hNM⟩ : ∃ NM, NM = str ((bl a1).take 25) := ⟨_, rfl⟩
  have hNL : NM.size ≤ 25 := by rw [hNM, str_size]; exact List.length_take_le _ _
  rw [← hNM]
  clear hNM L0
  obtain ⟨ab, nb, cb, rfl, hnb⟩ : ∃ a n c, v2 = .slice a n c ∧ n = A.length := by
    obtain ⟨a, c, h, -⟩ := HO2.out.rb
    exact ⟨a, _, c, h, rfl⟩
  have HNB := Go.Lib.hid hnb
  have HBT := Go.Lib.hid (HB1.out.trans (HB2.out.mono HB1.out.size))
  have C1 := Go.Lib.hid (snew_c 64 w2)
  have HNL := Go.Lib.hid hNL
  clear hnb hNL HVA
  go_wp2_with fail
  refine C1.out.mono ?_
  rintro e w3 ⟨d, g, rfl, hd3, hb3⟩
  rw [show lenD 64 = 64 from rfl] at hd3
  have HB3 := Go.Lib.hid (HBT.out.trans (hb3.mono HBT.out.size))
  have HO3 := Go.Lib.hid (HO2.out.below hb3)
  have HM2 := Go.Lib.hid hb3.size
  have HB23 := Go.Lib.hid hb3
  have C2 := Go.Lib.hid (make_ok hd3 (HT.out.below HB3.out) (by omega) (Nat.lt_of_lt_of_le HT.out.low HBT.out.size) hb3.size)
  clear hd3 hb3 C1
  go_wp2_with fail
  refine C2.out.mono ?_
  rintro e w4 ⟨s, p, rfl, hw4, ht4, hb4, -⟩
  have HB4 := Go.Lib.hid (HB3.out.trans (hb4.mono HBT.out.size))
  have hsz := HM2.out
  have ho4 : Own 5 w4 w1.heap.size (.slice ab nb cb) A := by
    rcases HO2.out.2 with ⟨h1, h2⟩ | ⟨q, cap, cur, h1, h2, h3, h4⟩
    · exact ⟨HO2.out.1, .inl ⟨h1, h2⟩⟩
    · refine ⟨HO2.out.1, .inr ⟨q, cap, cur, h1, h2, ?_, h4⟩⟩
      have hq := (Array.getElem?_eq_some_iff.1 h3).1
      exact (hb4.block q hq).trans ((HB23.out.block q hq).trans h3)
  have HO4 := Go.Lib.hid ho4
  have HW4 := Go.Lib.hid hw4
  have HT4 := Go.Lib.hid ht4
  have HLT4 := Go.Lib.hid (show w1.heap.size ≤ w4.heap.size from Nat.le_trans HB2.out.size (Nat.le_trans HM2.out hb4.size))
  have HLO := Go.Lib.hid (Nat.lt_of_lt_of_le HT.out.low HBT.out.size)
  -- the first Apply
  have hbz := newB w4 (.cells #[.string nF, .bool false, .slice ab nb cb] 47)
  have hrp := RPt.one w4 w4.heap.size rfl (nF, false, (ab, nb, cb), A) ho4.tx (0, 0)
  have hA1 := HA.out
  have C3 := Go.Lib.hid (apply_ok (hw4.below hbz) (ht4.below hbz) HLO.out hrp (by simp) (okp_f _ _ (by omega)) (by simp) (by rw [done_f]; simp) (by omega) (by omega) (max 1 (secs A.length)) 25 (by omega) (by unfold secs; omega) (fun x hx => absurd hx (by simp)) (by
    intro z hz _ h0
    rw [List.mem_singleton.1 hz] at h0 ⊢
    have h3 : A.length ≠ 0 := fun e => h0 (List.eq_nil_of_length_eq_zero e)
    show secs A.length = _
    unfold secs
    omega) (by unfold secs; omega) (by simp [secs]) (by simp only [List.length_cons, List.length_nil]; unfold secs; omega))
  have HB5 := Go.Lib.hid (below_to HB4.out (Nat.le_refl _) hbz)
  have HO5 := Go.Lib.hid (ho4.below hbz)
  have HW5 := Go.Lib.hid (hw4.below hbz)
  clear hbz hrp hw4 ht4 hb4 ho4 hsz C2 hA1 HB3 HB4 HO3 HO4
  go_wp2_with fail
  refine C3.out.mono ?_
  rintro e w6 ⟨rfl, ⟨K, hK, hw6⟩, ht6, hb6, ho6⟩
  have HB6 := Go.Lib.hid (HB5.out.trans (hb6.mono HBT.out.size))
  have ho7 := HW5.out.ownKept HO5.out ho6
  rw [done_f] at hw6
  have hcv := run_string_RB w6 45 5 9 Tryz.underlying45 Tryz.underlying5 Tryz.underlying9 (.slice ab nb cb) A ho7.rb
  have HO6 := Go.Lib.hid ho7
  have HW6 := Go.Lib.hid hw6
  have HT6 := Go.Lib.hid ht6
  have HK := Go.Lib.hid hK
  have hnbI : (nb : Int) ≤ 100 := by have := HNB.out; have := HA.out; omega
  clear ho7 hw6 ht6 hb6 ho6 hK C3
  go_wp2_with fail
  go_loopw [49] (fun c wr => ∃ (k : Nat) (M : List UInt8), k ≤ nb ∧ c = .int .i64 (k : Int) ∧ M.length = nb ∧ Own 5 wr w1.heap.size (.slice ab nb cb) M ∧ LW wr w2.heap.size s d g p 64 (lifeN K) 2 [(nF, A)] ∧ Tab wr ∧ Below w.heap.size w wr) (fun c _ => nb - (intOf c).toNat)
  case atStart => exact ⟨0, A, by omega, rfl, HNB.out.symm, HO6.out, HW6.out, HT6.out, HB6.out⟩
  case round =>
    obtain ⟨k, M, hk, rfl, hM, hown, hlw, htr, hbw⟩ := hrel
    clear hcv
    by_cases hkn : k < nb
    · obtain ⟨bg, bc, hv, hbB, hbl, -, -, -⟩ := hown.form (by omega)
      simp only [Value.slice.injEq] at hv
      obtain ⟨rfl, -, rfl⟩ := hv
      have hcell := hown.cell k (by omega)
      have hfr := hown.frozenAt k
      obtain ⟨cs, hblk⟩ := own_blk hown
      have hst := Go.Lib.hid (hown.store k (M[k] + 1) _ (byte_wrap M[k]))
      have hlw2 := Go.Lib.hid (hlw.setByte hblk k (M[k] + 1) _ (byte_wrap M[k]))
      have hb2 := Go.Lib.hid (hbw.setCell (p := ⟨bg, k, none⟩) (Nat.le_trans HB1.out.size hbB) (.int .u8 (((M[k].toNat : Int) + 1) % 256)))
      have ht2 := Go.Lib.hid (HT.out.below hb2.out)
      have hkI : (k : Int) < (nb : Int) := by omega
      have HKN := Go.Lib.hid hkn
      have HM := Go.Lib.hid (show (M.set k (M[k] + 1)).length = nb from by rw [List.length_set, hM])
      have hx256 := M[k].toNat_lt
      generalize M[k] + 1 = y at *
      generalize M[k] = x at *
      clear hown hlw htr hbw hbB hbl hM hkn hk hblk
      go_wp2_with fail
      go_roundw
      case rel => exact ⟨k + 1, _, by have := HKN.out; omega, by go_num, HM.out, hst.out, hlw2.out, ht2.out, hb2.out⟩
      case measure => simp only [intOf]; have := HKN.out; omega
    · obtain rfl : k = nb := by omega
      obtain ⟨wo, rfl⟩ : ∃ wo, wo = wr := ⟨_, rfl⟩
      have CG := Go.Lib.hid (get_ok hlw nF A rfl)
      have HLW := Go.Lib.hid hlw
      have HBW := Go.Lib.hid hbw
      clear hown hlw htr hbw hM hkn hk
      go_wp2_with fail
      refine CG.out.mono ?_
      rintro e w8 ⟨vx, rfl, hox, hb8⟩
      obtain ⟨ax, nx, cx, rfl, hnx⟩ : ∃ a n c, vx = .slice a n c ∧ n = A.length := by
        obtain ⟨a, c, h, -⟩ := hox.rb
        exact ⟨a, _, c, h, rfl⟩
      have HOX := Go.Lib.hid hox
      have HB8 := Go.Lib.hid hb8
      have HNX := Go.Lib.hid hnx
      have hnxI : (nx : Int) ≤ 100 := by have := HA.out; omega
      clear hox hb8 hnx CG
      go_wp2_with fail
      go_loopw [66] (fun c wr => ∃ (q : Nat) (M : List UInt8), q ≤ nx ∧ c = .int .i64 (q : Int) ∧ M.length = nx ∧ Own 5 wr wo.heap.size (.slice ax nx cx) M ∧ Below wo.heap.size wo wr) (fun c _ => nx - (intOf c).toNat)
      case atStart => exact ⟨0, A, by omega, rfl, HNX.out.symm, HOX.out, HB8.out⟩
      case round =>
        obtain ⟨q, M, hq, rfl, hM, hown, hbx⟩ := hrel
        by_cases hqn : q < nx
        · obtain ⟨bg, bc, hv, hbB, hbl, -, -, -⟩ := hown.form (by omega)
          simp only [Value.slice.injEq] at hv
          obtain ⟨rfl, -, rfl⟩ := hv
          have hcell := hown.cell q (by omega)
          have hfr := hown.frozenAt q
          have hst := Go.Lib.hid (hown.store q (M[q] + 2) _ (byte_wrap2 M[q]))
          have hb2 := Go.Lib.hid (hbx.setCell (p := ⟨bg, q, none⟩) hbB (.int .u8 (((M[q].toNat : Int) + 2) % 256)))
          have hkI : (q : Int) < (nx : Int) := by omega
          have HKN := Go.Lib.hid hqn
          have HM := Go.Lib.hid (show (M.set q (M[q] + 2)).length = nx from by rw [List.length_set, hM])
          have hx256 := M[q].toNat_lt
          generalize M[q] + 2 = y at *
          generalize M[q] = x at *
          clear hown hbx hbB hbl hM hqn hq
          go_wp2_with fail
          go_roundw
          case rel => exact ⟨q + 1, _, by have := HKN.out; omega, by go_num, HM.out, hst.out, hb2.out⟩
          case measure => simp only [intOf]; have := HKN.out; omega
        · obtain rfl : q = nx := by omega
          obtain ⟨wa, rfl⟩ : ∃ wa, wa = wr := ⟨_, rfl⟩
          have hlwa := HLW.out.below hbx
          have HBa := Go.Lib.hid (HBW.out.trans (hbx.mono HBW.out.size))
          have HLWa := Go.Lib.hid hlwa
          have CC := Go.Lib.hid (calls_ok hlwa)
          clear hown hbx hM hqn hq hlwa
          go_wp2_with fail
          refine CC.out.mono ?_
          rintro e wa' ⟨rfl, rfl⟩
          have CA := Go.Lib.hid (apply_idle HLWa.out (HT.out.below HBa.out) HLO.out (v := .slice none 0 0) ⟨.inl ⟨rfl, none, 0, rfl⟩, fun x hx => absurd hx (by simp)⟩ (by show (K : Int) ≤ 900000; have := HK.out; omega) (by omega))
          clear CC
          go_wp2_with fail
          refine CA.out.mono ?_
          rintro e wb ⟨rfl, hbb⟩
          have HBb := Go.Lib.hid (HBa.out.trans (hbb.mono HBa.out.size))
          have HLWb := Go.Lib.hid (HLWa.out.below hbb)
          have CC := Go.Lib.hid (calls_ok HLWb.out)
          clear hbb CA
          go_wp2_with fail
          refine CC.out.mono ?_
          rintro e wb' ⟨rfl, rfl⟩
          have kc := Go.Lib.run_convert_bytes_const (P := Tryz.prog) wb 45 5 #[Value.int IntKind.u8 111, Value.int IntKind.u8 116, Value.int IntKind.u8 104, Value.int IntKind.u8 101, Value.int IntKind.u8 114] 5 5 Tryz.underlying45 Tryz.underlying5
          clear CC
          go_wp2_with fail
          clear kc
          have hbA := newB wb (.cells #[.int .u8 111, .int .u8 116, .int .u8 104, .int .u8 101, .int .u8 114] 5 (5, 6))
          have hr1 := TX.lits wb [111, 116, 104, 101, 114] #[.int .u8 111, .int .u8 116, .int .u8 104, .int .u8 101, .int .u8 114] 5 rfl rfl (by decide) (5, 6)
          have hrp := RPt.two (wb.alloc (.cells #[.int .u8 111, .int .u8 116, .int .u8 104, .int .u8 101, .int .u8 114] 5 (5, 6))) (wb.heap.size + 1) (by simp) (nF, false, (some ⟨wb.heap.size, 0, none⟩, 5, 5), [111, 116, 104, 101, 114]) (nE, false, (none, 0, 0), []) hr1 (TX.nil _) (0, 0)
          have hbB := below_to hbA (Nat.le_refl _) (newB (wb.alloc (.cells #[.int .u8 111, .int .u8 116, .int .u8 104, .int .u8 101, .int .u8 114] 5 (5, 6))) (.cells #[.string nF, .bool false, slV (some ⟨wb.heap.size, 0, none⟩, 5, 5), .string nE, .bool false, slV (none, 0, 0)] 47))
          have hlwc := HLWb.out.below hbB
          have CF := Go.Lib.hid (apply_form hlwc ((HT.out.below HBb.out).below hbB) HLO.out hrp (by simp) (by
            intro x hx
            simp only [List.mem_cons, List.not_mem_nil, or_false] at hx
            rcases hx with rfl | rfl <;> simp) (mis_two _ _ _) (by show (K : Int) ≤ 900000; have := HK.out; omega) (by omega))
          have HBc := Go.Lib.hid (below_to HBb.out (Nat.le_refl _) hbB)
          have HLWc := Go.Lib.hid hlwc
          clear hbA hr1 hrp hbB hlwc
          refine CF.out.mono ?_
          rintro e wd ⟨rfl, hbd⟩
          have HBd := Go.Lib.hid (below_to HBc.out (Nat.le_refl _) hbd)
          have HLWd := Go.Lib.hid (HLWc.out.below hbd)
          have CG := Go.Lib.hid (get_ok HLWd.out nF A rfl)
          clear hbd CF
          go_wp2_with fail
          refine CG.out.mono ?_
          rintro e we ⟨vy, rfl, hoy, hbe⟩
          have HBe := Go.Lib.hid (below_to HBd.out (Nat.le_refl _) hbe)
          have hbz := newB we (.cells #[.string NM, .bool true, .slice none 0 0] 47)
          have hrp := RPt.one we we.heap.size rfl (NM, true, (none, 0, 0), []) (TX.nil we) (0, 0)
          have hlwf := (HLWd.out.below hbe).below hbz
          have htf := (HT.out.below HBe.out).below hbz
          have HBf := Go.Lib.hid (below_to HBe.out (Nat.le_refl _) hbz)
          have HOY := Go.Lib.hid (hoy.below hbz)
          have hbq : ((str A).toList == (str A).toList) = true := by simp
          by_cases hok : 1 ≤ NM.size ∧ NM.size ≤ 20
          · have CL := Go.Lib.hid (apply_ok hlwf htf HLO.out hrp (by simp) (fun x hx => by rw [List.mem_singleton.1 hx]; exact ⟨hok.1, hok.2, by simp⟩) (by simp) (gone_len _ _ _) (by have := HK.out; omega) (by omega) 2 25 (by omega) (by omega) (fun x hx => by rw [List.mem_singleton.1 hx]; have := HA.out; show secs A.length ≤ 2; unfold secs; omega) (fun x hx h => by rw [List.mem_singleton.1 hx] at h; cases h) (by omega) (by simp [secs]) (by simp))
            have HLWF := Go.Lib.hid hlwf
            have o1 : (1 : Int) ≤ (NM.size : Int) := by omega
            have o2 : (NM.size : Int) ≤ 20 := by omega
            clear hoy hbe hbz hrp hlwf htf hok CG
            go_wp2_with fail
            refine CL.out.mono ?_
            rintro e wg ⟨rfl, -, -, hbg, hog⟩
            have hoz := HLWF.out.ownKept HOY.out hog
            have hcv := run_string_RB wg 45 5 9 Tryz.underlying45 Tryz.underlying5 Tryz.underlying9 vy A hoz.rb
            have HBg := Go.Lib.hid (HBf.out.trans (hbg.mono HBT.out.size))
            clear hoz hbg hog CL
            go_wp2_with fail
            go_ret
            exact ⟨rfl, HBg.out⟩
          · have CL := Go.Lib.hid (apply_form hlwf htf HLO.out hrp (by simp) (fun x hx => by rw [List.mem_singleton.1 hx]; simp) (by
              rw [List.any_cons]
              unfold misP
              simp only [List.any_nil, Bool.or_false]
              by_cases h1 : NM.size < 1
              · rw [decide_eq_true h1]; rfl
              · rw [decide_eq_true (show 20 < NM.size by omega), Bool.or_true]) (by show (K : Int) ≤ 900000; have := HK.out; omega) (by omega))
            have o1 : (decide ((1 : Int) ≤ (NM.size : Int)) && decide ((NM.size : Int) ≤ 20)) = false := by
              rw [Bool.and_eq_false_iff, decide_eq_false_iff_not, decide_eq_false_iff_not]
              omega
            clear hoy hbe hbz hrp hlwf htf hok CG
            go_wp2_with fail
            refine CL.out.mono ?_
            rintro e wg ⟨rfl, hbg⟩
            have hcv := run_string_RB wg 45 5 9 Tryz.underlying45 Tryz.underlying5 Tryz.underlying9 vy A (HOY.out.below hbg).rb
            have HBg := Go.Lib.hid (below_to HBf.out (Nat.le_refl _) hbg)
            clear hbg CL
            by_cases o3 : (1 : Int) ≤ (NM.size : Int)
            · have o4 : ¬ (NM.size : Int) ≤ 20 := fun h => by simp [o3, h] at o1
              go_wp2_with fail
              go_ret
              refine ⟨?_, HBg.out⟩
              show Ending.returned (.bool (!decide ((NM.size : Int) ≤ 20))) = _
              rw [decide_eq_false (by omega)]
              rfl
            · go_wp2_with fail
              go_ret
              exact ⟨rfl, HBg.out⟩

/-! ### THE ROW's STEP: WRITTEN OUT: LEAVE IT -/
noncomputable def laidWorld (os : Os) : World := World.doorLaid Tryz.prog 400 os
theorem laid_met (os : Os) : laidMetH Tryz.prog Rows.storeOwnRow.laid ((laidWorld os).forCall (fun _ _ => 0) ⟨#[], #[.slice none 0 0, .string ByteArray.empty], []⟩).memory :=
  laidMetH_of_parts3 (fuel := 8) (laidMet_of_run' 8 (by kernel_rfl) (by kernel_rfl)) (by kernel_rfl) (by kernel_rfl)
theorem reads (os : Os) {H : Type} (enc : TypeId × Value → H) : ∃ places, DataW.whole enc Tryz.prog ((laidWorld os).forCall (fun _ _ => 0) ⟨#[], #[.slice none 0 0, .string ByteArray.empty], []⟩).memory Tryz.f6.params.toList Rows.storeOwnSpec.vars false (Array.toList #[.slice none 0 0, .string ByteArray.empty]) 8 = some ([.nil, .lit (.string [])], [], places) :=
  ⟨[], by kernel_rfl⟩

set_option maxRecDepth 100000 in
theorem lifted (os : Os) (started : os.Started) (H : Type) (enc : TypeId × Value → H) (F : Stop.Interp) :
    ReturnsInHanded {} Tryz.checked os 6 .any ((OpenSpec.ofChange Rows.storeOwnSpec).preRow enc Tryz.prog Tryz.f6 Rows.storeOwnRow.domain false Rows.storeOwnRow.laid) (((OpenSpec.ofChange Rows.storeOwnSpec).at F).post enc Tryz.prog Tryz.f6 false true false false) := by
  obtain ⟨places, hx⟩ := reads os enc
  refine returnsInHanded_of_row (C := Tryz.checked) (s := OpenSpec.ofChange Rows.storeOwnSpec) own started (by kernel_rfl) Tryz.func6
    (witness_row_at (enc := enc) (C := Tryz.checked) false (laidWorld os) #[.slice none 0 0, .string ByteArray.empty] rfl (by kernel_rfl) (by kernel_rfl) (by kernel_rfl)
      (OpenSpec.preRow_of_cond 8 hx (by kernel_rfl) (fun k hk => by cases hk) (by kernel_rfl) (laid_met os))) ?_
  intro W base args ds gs before hval0 hW _ _ _ hL _ _
  have hval : ∀ (j : Nat) t v, Tryz.f6.params[j]? = some t → args[j]? = some v → Value.okWide Tryz.prog W .any base t v := hval0
  have hW' := hW
  obtain ⟨p, q, hA0, hV, rfl, hfz, hnd⟩ := hW
  have hA : DataW.TrodAll enc Tryz.prog W 0 (fun _ => true) true Tryz.f6.params.toList args.toList ds p := hA0
  rw [Tryz.params6] at hA hval
  obtain ⟨v0, vs0, d0, ds0, p0, q0, hargs, rfl, rfl, h0, r0⟩ := trodAll_cons hA
  obtain ⟨v1, vs1, d1, ds1, p1, q1, rfl, rfl, rfl, h1, r1⟩ := trodAll_cons r0
  obtain ⟨rfl, rfl, rfl⟩ := trodAll_nil r1
  obtain rfl : args = #[v0, v1] := by cases args; simp_all
  obtain ⟨rfl, rfl⟩ := trodVars_none hV
  obtain ⟨a0, len0, cap0, rfl⟩ := okWide_slice Tryz.underlying45 (hval 0 45 v0 rfl rfl)
  have k0 := h0
  have lt0 : ∀ x ∈ p0, x.block < W.heap.size := by obtain ⟨m, hm⟩ := k0; exact DataW.trod_lt m _ _ _ hm
  obtain ⟨z0, w0⟩ : ∃ zs, IsRow .u8 W a0 len0 cap0 zs := by
    obtain ⟨fuel, hf⟩ := h0
    rcases open_ints Tryz.underlying45 Tryz.underlying5 (by kernel_rfl) hf with ⟨hcs, _⟩ | ⟨x, l, c, zs, hcs, _, hl, hm, hz, _, hcell, hwz⟩
    · simp [Value.cells] at hcs
      obtain ⟨rfl, rfl, rfl⟩ := hcs
      exact ⟨[], .inl ⟨rfl, rfl, rfl, rfl⟩⟩
    · simp [Value.cells] at hcs
      obtain ⟨rfl, rfl, rfl⟩ := hcs
      exact ⟨zs, .inr ⟨_, rfl, hl, hm, by simpa using hz, hcell, hwz⟩⟩
  obtain ⟨a1, rfl, rfl, rfl, w1⟩ := open_string Tryz.underlying9 (hval 1 9 v1 rfl rfl) h1
  clear hA0 hval0
  refine (walk a0 len0 cap0 z0 a1 W hL w0 w1).mono fun e W' ⟨he, bel⟩ => ?_
  subst he
  exact ⟨_, rfl, _, _, _, [], _, [], hW', trodAll_mk1 (shut_bool Tryz.underlying4 _), (trodAll_cons_mk (Below.trod laidOut (by kernel_rfl) (of_decide_eq_true (by kernel_rfl)) k0 bel lt0) (trodAll_cons_mk (shut_string Tryz.underlying9 w1) trodAll_mk0)), rfl, bel.frame _, fun h => by cases h⟩

theorem said : Rows.StoreOwnSaid :=
  OpenClaim.holds_of_cond 6 Tryz.f6 rfl rfl rfl rfl rfl rfl rfl ⟨rfl, rfl, rfl, rfl, rfl⟩ rfl rfl rfl rfl rfl (by kernel_rfl) Tryz.func6 (by kernel_rfl)
    (of_decide_eq_true (by kernel_rfl)) (by unfold Func.isWrapper; first | (rw [if_pos (by decide +kernel)]; kernel_rfl) | (rw [if_neg (by decide +kernel)]; exact ⟨rfl, rfl⟩))
    (fun os started H enc _ F => by rw [OpenClaim.pre_eq_preRow]; exact lifted os started H enc F)

/-- No parameter wants a stand-in; the program's own looks are off: what the card asks. -/
theorem plain (f : FuncId) (fn : Func) (hf : Tryz.pinned.checked.prog.funcNamed "loess/loesslaw15.StoreOwn" = some f) (hfn : Tryz.pinned.checked.prog.funcs[f]? = some fn) :
    false = Tryz.pinned.checked.prog.looks [] ∧ ∀ (j : Nat) t, fn.params[j]? = some t → Tryz.pinned.checked.prog.wantsStandIn t = false := by
  obtain rfl : f = 6 := Option.some.inj ((show Tryz.prog.funcNamed "loess/loesslaw15.StoreOwn" = some 6 by kernel_rfl).symm.trans hf) |>.symm
  obtain rfl : fn = Tryz.f6 := (Option.some.inj (Tryz.func6.symm.trans hfn)).symm
  refine ⟨by kernel_rfl, fun j t ht => ?_⟩
  rw [Tryz.params6] at ht
  have hm : t ∈ [45, 9] := by simpa using Array.mem_of_getElem? ht
  have hall : ([45, 9].all fun u => !Tryz.prog.wantsStandIn u) = true := by kernel_rfl
  exact (show Tryz.prog.wantsStandIn t = false by simpa using List.all_eq_true.1 hall t hm)

/-- THE CARD. -/
theorem proved : Rows.StoreOwnCardSaid :=
  Claim7.holds_tied_plain_at .later [] _ _ _ _ said (fun _ h => by cases h) (by kernel_rfl) (fun _ h => by cases h) storeOwn_row_tie rfl ⟨rfl, rfl⟩ (by kernel_rfl) rfl plain (by kernel_rfl)
end Go.Proofs.YtnalokjnbccjnaaGreatDoor.storeOwn
