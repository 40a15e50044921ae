/-
  The law's may of entries.
-/
import Derived.Test.YteickihofbkbkaaEntMay
namespace Go.Proofs.Yteickihofbkbkaa
open Go.RowKit Go.Op

theorem leq_of_lt {x y : List UInt8} (h : bytesLess x y = true) : bytesLess y x = false ∧ (y == x) = false := by
  constructor
  · cases h2 : bytesLess y x with
    | false => rfl
    | true => have := less_trans _ _ _ h h2; rw [less_irr] at this; cases this
  · cases h2 : y == x with
    | false => rfl
    | true => rw [beq_iff_eq.1 h2, less_irr] at h; cases h
theorem leq_of_not {x y : List UInt8} (h : bytesLess x y = false) : bytesLess y x = true ∨ (y == x) = true := by
  rcases less_tri x y with h1 | h1 | h1
  · rw [h] at h1; cases h1
  · exact .inr (by rw [h1]; simp)
  · exact .inl h1

set_option maxHeartbeats 4000000 in
set_option maxRecDepth 100000 in
theorem rmay_c (v : Value) (l : List EntT) (w : World) (hv : RE w v l) :
    Calls Try.prog 12 #[v] w fun e w' => e = .returned (.bool (mayL l)) ∧ Below w.heap.size w w' := by
  obtain ⟨a, cap, rfl, hm⟩ := hv.form
  have HV := Go.Lib.hid hv; clear hv
  go_enter Try.func12, Try.ntmps12
  go_wp2_with fail
  go_loopw [3] (fun i wr => ∃ k : Nat, k ≤ l.length ∧ i = .int .i64 (k : Int) ∧ Hid (∀ j, j < k → fitE l j) ∧ Below w.heap.size w wr) (fun i _ => l.length - (intOf i).toNat)
  case atStart => exact ⟨0, by omega, rfl, Go.Lib.hid (fun j hj => by omega), Below.refl _ _⟩
  case round =>
    obtain ⟨k, hk, rfl, hfit, hbc⟩ := hrel
    by_cases hlt : k < l.length
    · obtain ⟨b, o, rfl, -, hbs, c0, c1, c2, c3⟩ := (HV.out.below hbc).at k hlt
      have Hlt := Go.Lib.hid hlt
      have Hno := Go.Lib.hid (fun (h : ¬ fitE l k) => mayL_no (l := l) (fun h2 => h (h2.2 k hlt)))
      have Hyes := Go.Lib.hid (fun (h : fitE l k) => fit_snoc hfit.out h)
      have Hfit := Go.Lib.hid (show fitE l k ↔ (mayE l[k] ∧ (0 < k → ltE l[k - 1] l[k] = true)) from ⟨fun ⟨_, h⟩ => h, fun h => ⟨hlt, h⟩⟩)
      have Hprev := Go.Lib.hid (fun (h : 0 < k) => (HV.out.below hbc).at (k - 1) (show k - 1 < l.length by omega))
      have Hlast := Go.Lib.hid (fun h : 0 < k => show ∃ pn, pn = (l[k - 1]'(by omega)).1 from ⟨_, rfl⟩)
      generalize hx : l[k] = x at *
      obtain ⟨nm, en, ea, es⟩ := x
      simp only [] at c0 c1 c2 c3
      have hnew := heap_alloc_new wr (.cells #[.string nm, .int .i64 en, .int .i64 ea, .int .i64 es] 32)
      have hbn := newB wr (.cells #[.string nm, .int .i64 en, .int .i64 ea, .int .i64 es] 32)
      have hbb := hbc.trans (hbn.mono hbc.size)
      obtain ⟨x0, x1, x2, x3⟩ := row4 hnew
      have HB := Go.Lib.hid hbb
      have HN := Go.Lib.hid hbn
      have HME := Go.Lib.hid (show mayE (nm, en, ea, es) ↔ (1 ≤ nm.size ∧ nm.size ≤ 20 ∧ 0 ≤ en ∧ en ≤ 65536 ∧ es = (en + 63) / 64 ∧ 0 ≤ ea ∧ ea ≤ 2048 ∧ (es = 0 → ea = 0)) from Iff.rfl)
      have HBC := Go.Lib.hid hbc
      clear hnew hbn hbb hx hfit hbc hbs
      by_cases d1 : nm.size < 1
      · have K := Go.Lib.hid (Hno.out (fun h => by have := HME.out.1 (Hfit.out.1 h).1; omega))
        have d1I : (nm.size : Int) < 1 := by omega
        clear Hprev Hlast Hno Hyes Hfit HME
        go_upto_region 5 with (fail)
        go_quiet (fail)
        go_wp2_with fail
        go_ret
        exact ⟨ret_bool K.out, below_drewN HB.out _⟩
      have i1 : ¬ (nm.size : Int) < 1 := by omega
      by_cases d2 : 20 < nm.size
      · have K := Go.Lib.hid (Hno.out (fun h => by have := HME.out.1 (Hfit.out.1 h).1; omega))
        have d2I : (20 : Int) < (nm.size : Int) := by omega
        clear d1
        clear Hprev Hlast Hno Hyes Hfit HME
        go_upto_region 5 with (fail)
        go_quiet (fail)
        go_wp2_with fail
        go_ret
        exact ⟨ret_bool K.out, below_drewN HB.out _⟩
      have i2 : ¬ (20 : Int) < (nm.size : Int) := by omega
      have HD := Go.Lib.hid (And.intro d1 d2)
      clear d1 d2
      by_cases hz : k = 0
      · have hz1 : ¬ (0 : Int) < (k : Int) := by omega
        have hz2 : ¬ 0 < k := by omega
        have Hz := Go.Lib.hid hz
        clear hz Hprev Hlast
        by_cases d3 : en < 0
        · have K := Go.Lib.hid (Hno.out (fun h => by have := HME.out.1 (Hfit.out.1 h).1; have := HD.out; omega))
          clear Hno Hyes Hfit HME
          go_upto_region 5 with (fail)
          go_quiet (fail)
          go_wp2_with fail
          go_ret
          exact ⟨ret_bool K.out, below_drewN HB.out _⟩
        by_cases d4 : 65536 < en
        · have K := Go.Lib.hid (Hno.out (fun h => by have := HME.out.1 (Hfit.out.1 h).1; have := HD.out; omega))
          clear Hno Hyes Hfit HME
          go_upto_region 5 with (fail)
          go_quiet (fail)
          go_wp2_with fail
          go_ret
          exact ⟨ret_bool K.out, below_drewN HB.out _⟩
        have k1 : IntKind.i64.wrap (en + 63) = en + 63 := IntWalk.i64_in _ (by omega)
        have k2 : (en + 63).tdiv 64 = (en + 63) / 64 := Int.tdiv_eq_ediv_of_nonneg (by omega)
        obtain ⟨q, hq⟩ : ∃ q, q = (en + 63) / 64 := ⟨_, rfl⟩
        rw [← hq] at k2
        have hq0 : 0 ≤ q := by omega
        have hq1 : q ≤ 1024 := by omega
        have HK2 := Go.Lib.hid (show mayE (nm, en, ea, es) ↔ (es = q ∧ 0 ≤ ea ∧ ea ≤ 2048 ∧ (es = 0 → ea = 0)) from by rw [HME.out]; have := HD.out; omega)
        clear hq HME HD
        by_cases d5 : es = q
        · subst d5
          by_cases d6 : ea < 0
          · have K := Go.Lib.hid (Hno.out (fun h => by have := HK2.out.1 (Hfit.out.1 h).1; omega))
            clear Hno Hyes Hfit HK2
            go_upto_region 5 with (fail)
            go_quiet (fail)
            go_wp2_with fail
            go_ret
            exact ⟨ret_bool K.out, below_drewN HB.out _⟩
          by_cases d7 : 2048 < ea
          · have K := Go.Lib.hid (Hno.out (fun h => by have := HK2.out.1 (Hfit.out.1 h).1; omega))
            clear Hno Hyes Hfit HK2
            go_upto_region 5 with (fail)
            go_quiet (fail)
            go_wp2_with fail
            go_ret
            exact ⟨ret_bool K.out, below_drewN HB.out _⟩
          by_cases d8 : es = 0
          · have b8 : (es == 0) = true := by simp [d8]
            by_cases d9 : ea = 0
            · have b9 : (ea == 0) = true := by simp [d9]
              have K := Go.Lib.hid (Hyes.out (Hfit.out.2 ⟨HK2.out.2 (by omega), fun h => absurd h (by have := Hz.out; omega)⟩))
              clear Hno Hyes Hfit HK2 d8 d9
              go_upto_region 5 with (fail)
              go_quiet (fail)
              go_wp2_with fail
              go_roundw
              case rel => exact ⟨k + 1, by have := Hlt.out; omega, by go_num, K, below_drewN HB.out _⟩
              case measure => simp only [intOf]; have := Hlt.out; omega
            · have b9 : (ea == 0) = false := by simp [d9]
              have K := Go.Lib.hid (Hno.out (fun h => by have := HK2.out.1 (Hfit.out.1 h).1; omega))
              clear Hno Hyes Hfit HK2 d8 d9
              go_upto_region 5 with (fail)
              go_quiet (fail)
              go_wp2_with fail
              go_ret
              exact ⟨ret_bool K.out, below_drewN HB.out _⟩
          · have b8 : (es == 0) = false := by simp [d8]
            have K := Go.Lib.hid (Hyes.out (Hfit.out.2 ⟨HK2.out.2 (by omega), fun h => absurd h (by have := Hz.out; omega)⟩))
            clear Hno Hyes Hfit HK2 d8
            go_upto_region 5 with (fail)
            go_quiet (fail)
            go_wp2_with fail
            go_roundw
            case rel => exact ⟨k + 1, by have := Hlt.out; omega, by go_num, K, below_drewN HB.out _⟩
            case measure => simp only [intOf]; have := Hlt.out; omega
        · have b5 : (es == q) = false := by simp [d5]
          have K := Go.Lib.hid (Hno.out (fun h => by have := HK2.out.1 (Hfit.out.1 h).1; omega))
          clear Hno Hyes Hfit HK2
          go_upto_region 5 with (fail)
          go_quiet (fail)
          go_wp2_with fail
          go_ret
          exact ⟨ret_bool K.out, below_drewN HB.out _⟩
      · have hpos : 0 < k := by omega
        have hposI : (0 : Int) < (k : Int) := by omega
        obtain ⟨pb, po, he, -, -, d0, -⟩ := Hprev.out hpos
        obtain ⟨pn, hpn⟩ := Hlast.out hpos
        obtain ⟨rfl, rfl⟩ : b = pb ∧ o = po := by simpa using he
        rw [← hpn] at d0
        have d0n := keptC d0 HN.out; clear d0; have d0 := d0n; clear d0n
        obtain ⟨j, hj⟩ : ∃ j, j = k - 1 := ⟨_, rfl⟩
        rw [← hj] at d0
        have hw : IntKind.i64.wrap ((k : Int) - 1) = (j : Int) := by rw [IntKind.wrap_i64]; omega
        have hjN : j < l.length := by have := Hlt.out; omega
        have hjI : (j : Int) < (l.length : Int) := by omega
        have hix := run_idxE b o l.length cap j hjN
        have HP := Go.Lib.hid (show ltE (l[k - 1]'(Nat.lt_of_le_of_lt (Nat.sub_le k 1) Hlt.out)) (nm, en, ea, es) = bytesLess pn.toList nm.toList from by rw [hpn]; rfl)
        clear Hprev Hlast hj he hpn hz
        cases hr : bytesLess pn.toList nm.toList with
        | false =>
          have K := Go.Lib.hid (Hno.out (fun h => by have := (Hfit.out.1 h).2 hpos; rw [HP.out, hr] at this; cases this))
          rcases leq_of_not hr with t1 | t2
          · clear Hno Hyes Hfit HME HP hr
            go_upto_region 5 with (fail)
            go_quiet (fail)
            go_wp2_with fail
            go_ret
            exact ⟨ret_bool K.out, below_drewN HB.out _⟩
          · cases t1 : bytesLess nm.toList pn.toList with
            | true =>
              clear Hno Hyes Hfit HME HP hr
              go_upto_region 5 with (fail)
              go_quiet (fail)
              go_wp2_with fail
              go_ret
              exact ⟨ret_bool K.out, below_drewN HB.out _⟩
            | false =>
              clear Hno Hyes Hfit HME HP hr
              go_upto_region 5 with (fail)
              go_quiet (fail)
              go_wp2_with fail
              go_ret
              exact ⟨ret_bool K.out, below_drewN HB.out _⟩
        | true =>
          obtain ⟨t1, t2⟩ := leq_of_lt hr
          have HLT := Go.Lib.hid (show 0 < k → ltE (l[k - 1]'(Nat.lt_of_le_of_lt (Nat.sub_le k 1) Hlt.out)) (nm, en, ea, es) = true from fun _ => by rw [HP.out]; exact hr)
          clear HP hr
          by_cases d3 : en < 0
          · have K := Go.Lib.hid (Hno.out (fun h => by have := HME.out.1 (Hfit.out.1 h).1; have := HD.out; omega))
            clear Hno Hyes Hfit HME
            go_upto_region 5 with (fail)
            go_quiet (fail)
            go_wp2_with fail
            go_ret
            exact ⟨ret_bool K.out, below_drewN HB.out _⟩
          by_cases d4 : 65536 < en
          · have K := Go.Lib.hid (Hno.out (fun h => by have := HME.out.1 (Hfit.out.1 h).1; have := HD.out; omega))
            clear Hno Hyes Hfit HME
            go_upto_region 5 with (fail)
            go_quiet (fail)
            go_wp2_with fail
            go_ret
            exact ⟨ret_bool K.out, below_drewN HB.out _⟩
          have k1 : IntKind.i64.wrap (en + 63) = en + 63 := IntWalk.i64_in _ (by omega)
          have k2 : (en + 63).tdiv 64 = (en + 63) / 64 := Int.tdiv_eq_ediv_of_nonneg (by omega)
          obtain ⟨q, hq⟩ : ∃ q, q = (en + 63) / 64 := ⟨_, rfl⟩
          rw [← hq] at k2
          have hq0 : 0 ≤ q := by omega
          have hq1 : q ≤ 1024 := by omega
          have HK2 := Go.Lib.hid (show mayE (nm, en, ea, es) ↔ (es = q ∧ 0 ≤ ea ∧ ea ≤ 2048 ∧ (es = 0 → ea = 0)) from by rw [HME.out]; have := HD.out; omega)
          clear hq HME HD
          by_cases d5 : es = q
          · subst d5
            by_cases d6 : ea < 0
            · have K := Go.Lib.hid (Hno.out (fun h => by have := HK2.out.1 (Hfit.out.1 h).1; omega))
              clear Hno Hyes Hfit HK2
              go_upto_region 5 with (fail)
              go_quiet (fail)
              go_wp2_with fail
              go_ret
              exact ⟨ret_bool K.out, below_drewN HB.out _⟩
            by_cases d7 : 2048 < ea
            · have K := Go.Lib.hid (Hno.out (fun h => by have := HK2.out.1 (Hfit.out.1 h).1; omega))
              clear Hno Hyes Hfit HK2
              go_upto_region 5 with (fail)
              go_quiet (fail)
              go_wp2_with fail
              go_ret
              exact ⟨ret_bool K.out, below_drewN HB.out _⟩
            by_cases d8 : es = 0
            · have b8 : (es == 0) = true := by simp [d8]
              by_cases d9 : ea = 0
              · have b9 : (ea == 0) = true := by simp [d9]
                have K := Go.Lib.hid (Hyes.out (Hfit.out.2 ⟨HK2.out.2 (by omega), HLT.out⟩))
                clear Hno Hyes Hfit HK2 d8 d9
                go_upto_region 5 with (fail)
                go_quiet (fail)
                go_wp2_with fail
                go_roundw
                case rel => exact ⟨k + 1, by have := Hlt.out; omega, by go_num, K, below_drewN HB.out _⟩
                case measure => simp only [intOf]; have := Hlt.out; omega
              · have b9 : (ea == 0) = false := by simp [d9]
                have K := Go.Lib.hid (Hno.out (fun h => by have := HK2.out.1 (Hfit.out.1 h).1; omega))
                clear Hno Hyes Hfit HK2 d8 d9
                go_upto_region 5 with (fail)
                go_quiet (fail)
                go_wp2_with fail
                go_ret
                exact ⟨ret_bool K.out, below_drewN HB.out _⟩
            · have b8 : (es == 0) = false := by simp [d8]
              have K := Go.Lib.hid (Hyes.out (Hfit.out.2 ⟨HK2.out.2 (by omega), HLT.out⟩))
              clear Hno Hyes Hfit HK2 d8
              go_upto_region 5 with (fail)
              go_quiet (fail)
              go_wp2_with fail
              go_roundw
              case rel => exact ⟨k + 1, by have := Hlt.out; omega, by go_num, K, below_drewN HB.out _⟩
              case measure => simp only [intOf]; have := Hlt.out; omega
          · have b5 : (es == q) = false := by simp [d5]
            have K := Go.Lib.hid (Hno.out (fun h => by have := HK2.out.1 (Hfit.out.1 h).1; omega))
            clear Hno Hyes Hfit HK2
            go_upto_region 5 with (fail)
            go_quiet (fail)
            go_wp2_with fail
            go_ret
            exact ⟨ret_bool K.out, below_drewN HB.out _⟩
    · obtain rfl : k = l.length := by omega
      by_cases h32 : l.length ≤ 32
      · have K := Go.Lib.hid (mayL_iff.2 (show MayL l from ⟨h32, hfit.out⟩))
        have h32I : (l.length : Int) ≤ 32 := by omega
        clear hfit hlt
        go_wp2_with fail
        go_ret
        exact ⟨ret_bool (by rw [K.out]), hbc⟩
      · have K := Go.Lib.hid (mayL_no (l := l) (fun h => h32 h.1))
        have h32I : ¬ (l.length : Int) ≤ 32 := by omega
        clear hfit hlt
        go_wp2_with fail
        go_ret
        exact ⟨ret_bool (by rw [K.out]), hbc⟩

end Go.Proofs.Yteickihofbkbkaa
