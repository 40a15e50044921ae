/-
  The law's eq of entries.
-/
import Derived.Test.YteickihofbkbkaaEntC
namespace Go.Proofs.Yteickihofbkbkaa
open Go.RowKit

theorem takeGo {l m : List EntT} {k : Nat} (h1 : k < l.length) (h2 : k < m.length) (he : l.take k = m.take k) (h : l[k] = m[k]) : l.take (k + 1) = m.take (k + 1) := by
  rw [List.take_succ_eq_append_getElem h1, List.take_succ_eq_append_getElem h2, he, h]
theorem text_ne {a b : ByteArray} (h : a ≠ b) : (a.toList == b.toList) = false := by
  rw [beq_eq_false_iff_ne, ne_eq, ByteArray.toList_eq, ByteArray.toList_eq]
  exact fun e => h (ByteArray.ext (Array.toList_inj.1 e))

set_option maxHeartbeats 2000000 in
set_option maxRecDepth 100000 in
theorem eq_c (u v : Value) (l m : List EntT) (w : World) (hu : RE w u l) (hv : RE w v m) :
    Calls Try.prog 15 #[u, v] w fun e w' => e = .returned (.bool (decide (l = m))) ∧ Below w.heap.size w w' := by
  obtain ⟨a1, cap1, rfl, hm1⟩ := hu.form
  obtain ⟨a2, cap2, rfl, hm2⟩ := hv.form
  have HU := Go.Lib.hid hu; clear hu
  have HV := Go.Lib.hid hv; clear hv
  by_cases hl : l.length = m.length
  · have Hl := Go.Lib.hid hl
    have hlb : ((l.length : Int) == (m.length : Int)) = true := by simp [hl]
    have hln : ((l.length : Int) = (m.length : Int)) := by omega
    go_enter Try.func15, Try.ntmps15
    go_wp2_with fail
    clear hln hlb
    have hl2 := Hl.out
    have Hl2 := Go.Lib.hid hl2; clear hl2 hl
    go_loopw [5] (fun i w2 => ∃ k : Nat, k ≤ l.length ∧ i = .int .i64 (k : Int) ∧ l.take k = m.take k ∧ Below w.heap.size w w2) (fun i _ => l.length - (intOf i).toNat)
    case atStart => exact ⟨0, by omega, rfl, by simp, Below.refl _ _⟩
    case round =>
      obtain ⟨k, hk, rfl, htk, hbc⟩ := hrel
      have Htk := Go.Lib.hid htk; clear htk
      by_cases hlt : k < l.length
      · have hlt2 : k < m.length := by have := Hl.out; omega
        obtain ⟨b1, o1, rfl, -, -, c0, c1, c2, c3⟩ := (HU.out.below hbc).at k hlt
        obtain ⟨b2, o2, rfl, -, -, d0, d1, d2, d3⟩ := (HV.out.below hbc).at k hlt2
        have Hgo := Go.Lib.hid (fun h => takeGo hlt hlt2 Htk.out h)
        have hne := Go.Lib.hid (fun (h : l[k] ≠ m[k]) => decide_eq_false (show ¬ l = m from fun e => h (by subst e; rfl)))
        have HB := Go.Lib.hid hbc
        have Hlt := Go.Lib.hid hlt
        generalize hx : l[k] = x at *
        generalize hy : m[k] = y at *
        obtain ⟨nx, lx, ax, sx⟩ := x
        obtain ⟨ny, ly, ay, sy⟩ := y
        simp only [] at c0 c1 c2 c3 d0 d1 d2 d3
        clear hx hy hbc
        by_cases d : nx = ny
        · subst d
          have e1 : (nx.toList == nx.toList) = true := by simp
          by_cases d : lx = ly
          · subst d
            by_cases d : ax = ay
            · subst d
              by_cases d : sx = sy
              · subst d
                have K := Go.Lib.hid (Hgo.out rfl)
                clear hne Hgo
                go_upto_region 6 with (fail)
                go_quiet (fail)
                go_wp2_with fail
                go_roundw
                case rel => exact ⟨k + 1, by have := Hlt.out; omega, by go_num, K.out, below_drewN HB.out _⟩
                case measure => simp only [intOf]; have := Hlt.out; omega
              · have e4 : (sx == sy) = false := by simp [d]
                have e4n : (sx != sy) = true := by simp [d]
                have K := Go.Lib.hid (hne.out (fun e => by cases e; exact d rfl))
                clear hne Hgo d
                go_upto_region 6 with (fail)
                go_quiet (fail)
                go_wp2_with fail
                go_ret
                exact ⟨ret_bool K.out, below_drewN HB.out _⟩
            · have e3 : (ax == ay) = false := by simp [d]
              have e3n : (ax != ay) = true := by simp [d]
              have K := Go.Lib.hid (hne.out (fun e => by cases e; exact d rfl))
              clear hne Hgo d
              go_upto_region 6 with (fail)
              go_quiet (fail)
              go_wp2_with fail
              go_ret
              exact ⟨ret_bool K.out, below_drewN HB.out _⟩
          · have e2 : (lx == ly) = false := by simp [d]
            have e2n : (lx != ly) = true := by simp [d]
            have K := Go.Lib.hid (hne.out (fun e => by cases e; exact d rfl))
            clear hne Hgo d
            go_upto_region 6 with (fail)
            go_quiet (fail)
            go_wp2_with fail
            go_ret
            exact ⟨ret_bool K.out, below_drewN HB.out _⟩
        · have e1 := text_ne d
          have K := Go.Lib.hid (hne.out (fun e => by cases e; exact d rfl))
          clear hne Hgo d
          go_upto_region 6 with (fail)
          go_quiet (fail)
          go_wp2_with fail
          go_ret
          exact ⟨ret_bool K.out, below_drewN HB.out _⟩
      · obtain rfl : k = l.length := by omega
        have hgo : l = m := by
          have := Htk.out
          rwa [List.take_of_length_le (Nat.le_refl _), List.take_of_length_le (by have := Hl.out; omega)] at this
        have Hgo := Go.Lib.hid (decide_eq_true hgo)
        clear hgo
        go_wp2_with fail
        go_ret
        exact ⟨ret_bool Hgo.out, hbc⟩
  · have hgo := Go.Lib.hid (decide_eq_false (show ¬ l = m from fun e => hl (by rw [e])))
    have hlb : ((l.length : Int) == (m.length : Int)) = false := by simp; omega
    have hln : ¬ ((l.length : Int) = (m.length : Int)) := by omega
    go_enter Try.func15, Try.ntmps15
    go_wp2_with fail
    go_ret
    exact ⟨ret_bool hgo.out, Below.refl _ _⟩
  
  end Go.Proofs.Yteickihofbkbkaa
