/-
  The law's bytes of entries.
-/
import Derived.Test.YteickihofbkbkaaEntP
import Derived.Test.YteickihofbkbkaaDrawC
namespace Go.Proofs.Yteickihofbkbkaa
open Go.RowKit

section
variable {α : Type} {l : List α}
theorem len0 (h : l.length = 0) : l = [] := List.eq_nil_of_length_eq_zero h
theorem len1 (h : l.length = 1) : ∃ a, l = [a] := by match l, h with | [a], _ => exact ⟨a, rfl⟩
theorem len2 (h : l.length = 2) : ∃ a b, l = [a, b] := by match l, h with | [a, b], _ => exact ⟨a, b, rfl⟩
theorem len3 (h : l.length = 3) : ∃ a b c, l = [a, b, c] := by match l, h with | [a, b, c], _ => exact ⟨a, b, c, rfl⟩
theorem len4 (h : l.length = 4) : ∃ a b c d, l = [a, b, c, d] := by match l, h with | [a, b, c, d], _ => exact ⟨a, b, c, d, rfl⟩
theorem len5 (h : l.length = 5) : ∃ a b c d e, l = [a, b, c, d, e] := by match l, h with | [a, b, c, d, e], _ => exact ⟨a, b, c, d, e, rfl⟩
theorem len6 (h : l.length = 6) : ∃ a b c d e f, l = [a, b, c, d, e, f] := by match l, h with | [a, b, c, d, e, f], _ => exact ⟨a, b, c, d, e, f, rfl⟩
theorem len7 (h : l.length = 7) : ∃ a b c d e f g, l = [a, b, c, d, e, f, g] := by match l, h with | [a, b, c, d, e, f, g], _ => exact ⟨a, b, c, d, e, f, g, rfl⟩
end

def VBy (b o n cap k : Nat) (u : Value) (en ea es : Int) : Nat → Value → Prop
  | 22, v => v = u
  | 23, v => v = .slice (some ⟨b, o, none⟩) n cap
  | 24, v => v = .int .i64 (k : Int)
  | 25, v => v = .pointer (some ⟨b, o + k * 4, none⟩)
  | 26, v => v = .pointer (some ⟨b, o + k * 4 + 1, none⟩)
  | 27, v => v = .int .i64 en
  | 30, v => v = .slice (some ⟨b, o, none⟩) n cap
  | 31, v => v = .int .i64 (k : Int)
  | 32, v => v = .pointer (some ⟨b, o + k * 4, none⟩)
  | 33, v => v = .pointer (some ⟨b, o + k * 4 + 2, none⟩)
  | 34, v => v = .pointer (some ⟨b, o + k * 4 + 2, none⟩)
  | 35, v => v = .int .i64 ea
  | 38, v => v = .slice (some ⟨b, o, none⟩) n cap
  | 39, v => v = .int .i64 (k : Int)
  | 40, v => v = .pointer (some ⟨b, o + k * 4, none⟩)
  | 41, v => v = .pointer (some ⟨b, o + k * 4 + 2, none⟩)
  | 42, v => v = .pointer (some ⟨b, o + k * 4 + 3, none⟩)
  | 43, v => v = .int .i64 es
  | _, _ => True

/-- How far it has come. -/
def CBy (w0 : World) (u : Value) (P A1 A2 A3 : List UInt8) : List Value → World → Prop
  | [], w => Own 5 w w0.heap.size u P ∧ Below w0.heap.size w0 w
  | [x], w => Own 5 w w0.heap.size u P ∧ RB w x A1 ∧ Below w0.heap.size w0 w
  | [_, r], w => Own 5 w w0.heap.size r (P ++ A1) ∧ Below w0.heap.size w0 w
  | [_, r, x], w => Own 5 w w0.heap.size r (P ++ A1) ∧ RB w x A2 ∧ Below w0.heap.size w0 w
  | [_, _, _, r], w => Own 5 w w0.heap.size r (P ++ A1 ++ A2) ∧ Below w0.heap.size w0 w
  | [_, _, _, r, x], w => Own 5 w w0.heap.size r (P ++ A1 ++ A2) ∧ RB w x A3 ∧ Below w0.heap.size w0 w
  | [_, _, _, _, _, r], w => Own 5 w w0.heap.size r (P ++ A1 ++ A2 ++ A3) ∧ Below w0.heap.size w0 w
  | [_, _, _, _, _, r, y], w => y = r ∧ Own 5 w w0.heap.size r (P ++ A1 ++ A2 ++ A3) ∧ Below w0.heap.size w0 w
  | _, w => Below w0.heap.size w0 w
theorem CBy.bel {w0 w : World} {u : Value} {P A1 A2 A3 : List UInt8} : ∀ {vs : List Value}, CBy w0 u P A1 A2 A3 vs w → Below w0.heap.size w0 w
  | [], h => h.2
  | [_], h => h.2.2
  | [_, _], h => h.2
  | [_, _, _], h => h.2.2
  | [_, _, _, _], h => h.2
  | [_, _, _, _, _], h => h.2.2
  | [_, _, _, _, _, _], h => h.2
  | [_, _, _, _, _, _, _], h => h.2.2
  | _ :: _ :: _ :: _ :: _ :: _ :: _ :: _ :: _, h => h

/-- Written by itself each entry is as long as it is. -/
theorem entP_long (l : List EntT) (h : ∀ x ∈ l, putE x) (k : Nat) : (numP (l.length : Int) ++ rowP (l.take k)).length ≤ 10 + l.length * 65576 ∨ 9223372036854775807 < (l.length : Int) := by
  by_cases hl : (l.length : Int) ≤ 9223372036854775807
  · left
    have e1 := (numP_len (l.length : Int) (by omega) hl).1
    have e2 := rowP_len (l.take k) (fun x hx => h x (List.mem_of_mem_take hx))
    have e3 : (l.take k).length ≤ l.length := List.length_take_le' _ _
    rw [List.length_append]
    have e4 := Nat.mul_le_mul_right 65576 e3
    omega
  · right; omega

set_option maxHeartbeats 4000000 in
set_option maxRecDepth 100000 in
theorem rbytes_c (v : Value) (l : List EntT) (w : World) (hv : RE w v l) (hp : ∀ x ∈ l, putE x) (hl : l.length ≤ 1000) :
    Calls Try.prog 14 #[v] w fun e w' => ∃ v', e = .returned v' ∧ Own 5 w' w.heap.size v' (lstB l) ∧ Below w.heap.size w w' := by
  obtain ⟨a, cap, rfl, hlen⟩ := hv.form
  have HV := Go.Lib.hid hv; clear hv
  have HPE := Go.Lib.hid hp; clear hp
  have CP := Go.Lib.hid (fun n W (h : -9223372036854775808 ≤ n ∧ n ≤ 9223372036854775807) => rput_c n W h.1 h.2)
  have C0 := Go.Lib.hid (rput_c (l.length : Int) w (by omega) (by omega))
  go_enter Try.func14, Try.ntmps14
  go_wp2_with fail
  refine C0.out.mono ?_
  rintro e w1 ⟨v1, rfl, hown1, hb1⟩
  have HO1 := Go.Lib.hid hown1
  have HB1 := Go.Lib.hid hb1
  clear hown1 hb1 C0
  go_wp2_with fail
  go_loopw [3, 4] (fun bv i wr => ∃ (k : Nat) (u : Value), u = bv ∧ k ≤ l.length ∧ i = .int .i64 (k : Int) ∧ Own 5 wr w.heap.size u (numP (l.length : Int) ++ rowP (l.take k)) ∧ Below w.heap.size w wr) (fun _ i _ => l.length - (intOf i).toNat)
  case atStart => exact ⟨0, _, rfl, by omega, rfl, by simpa [rowP, numP] using HO1.out, HB1.out⟩
  case round =>
    obtain ⟨k, u, rfl, hk, rfl, hown, hbc⟩ := hrel
    by_cases hlt : k < l.length
    · obtain ⟨b, o, rfl, -, hbs, c0, c1, c2, c3⟩ := (HV.out.below hbc).at k hlt
      have hcells := fun W (h : Below w.heap.size w W) => (HV.out.below h).at k hlt
      have hP : (numP (l.length : Int) ++ rowP (l.take k)).length ≤ 66000000 := by
        rcases entP_long l HPE.out k with h | h <;> omega
      have hsn : numP (l.length : Int) ++ rowP (l.take k) ++ entP l[k] = numP (l.length : Int) ++ rowP (l.take (k + 1)) := by rw [List.take_succ_eq_append_getElem hlt, rowP_snoc, List.append_assoc]
      have hpe : putE l[k] := HPE.out _ (List.getElem_mem hlt)
      have Hlt := Go.Lib.hid hlt
      have Hix := Go.Lib.hid (run_idxE b o l.length cap k hlt)
      generalize hx : l[k] = x at *
      obtain ⟨nm, en, ea, es⟩ := x
      obtain ⟨m0, m1, m2, m3⟩ := hpe
      simp only [] at c0 c1 c2 c3 m0 m1 m2 m3
      have HC := Go.Lib.hid (fun W (h : Below w.heap.size w W) => show W.cell? ⟨b, o + k * 4 + 1, none⟩ = some (.int .i64 en) ∧ W.cell? ⟨b, o + k * 4 + 2, none⟩ = some (.int .i64 ea) ∧ W.cell? ⟨b, o + k * 4 + 3, none⟩ = some (.int .i64 es) from by
        obtain ⟨b', o', he, -, -, -, d1, d2, d3⟩ := hcells W h
        cases he
        exact ⟨d1, d2, d3⟩)
      generalize numP (l.length : Int) ++ rowP (l.take k) = P0 at *
      have CT := Go.Lib.hid (fun W => rputText_c nm W (by omega))
      have pt := Go.Lib.hid (show (putT nm.data.toList).length ≤ 10 + nm.size by
        have := Go.Lib.uvarint_length64 (Go.Lib.zigzag_lt (x := (nm.size : Int)) (by omega) (by omega))
        unfold putT
        rw [List.length_append, ← Go.Lib.size_eq]
        omega)
      have HSn := Go.Lib.hid hsn
      have HP0 := Go.Lib.hid hP
      have HM0 := Go.Lib.hid m0
      have HEn := Go.Lib.hid m1
      have HEa := Go.Lib.hid m2
      have HEs := Go.Lib.hid m3
      have HO := Go.Lib.hid hown
      have HBC := Go.Lib.hid hbc
      have HN := Go.Lib.hid (show (numP en).length ≤ 10 ∧ (numP ea).length ≤ 10 ∧ (numP es).length ≤ 10 from ⟨(numP_len _ m1.1 m1.2).1, (numP_len _ m2.1 m2.2).1, (numP_len _ m3.1 m3.2).1⟩)
      clear hx hsn hP m0 m1 m2 m3 hown hbc hbs hcells
      go_wp2_with fail
      refine (CT.out _).mono ?_
      rintro e w3 ⟨v3, rfl, hown3, hb3⟩
      have HO3 := Go.Lib.hid (HO.out.below hb3)
      have HR3 := Go.Lib.hid hown3.rb
      have HB3 := Go.Lib.hid (below_to HBC.out (Nat.le_refl _) hb3)
      clear hown3 hb3 HO HBC c0 c1 c2 c3
      go_upto_region 6 with (first
        | (with_reducible show wpList _ _ _ (⟨some 21, _, _, _, _, _⟩ :: _) _ _; go_loud (refine wpList_append_RB rfl (.tmp 14) (.tmp 20) 26 rfl w.heap.size 5 Try.underlying26 info8 u v3 P0 (putT nm.data.toList) rfl rfl HO3.out HR3.out (by have := HP0.out; have := pt.out; have := HM0.out; omega) HB3.out.size ?_); intro v4 w4 hown4 hg4)
        | fail)
      have HB4 := Go.Lib.hid (HB3.out.grown hg4 HB3.out.size HO3.out.row)
      have HO4 := Go.Lib.hid hown4
      have HP := Go.Lib.hid (show (P0 ++ putT nm.data.toList).length ≤ 67000000 by have := HP0.out; have := pt.out; have := HM0.out; rw [List.length_append]; omega)
      have HSn2 := Go.Lib.hid (show P0 ++ putT nm.data.toList ++ numP en ++ numP ea ++ numP es = numP (l.length : Int) ++ rowP (l.take (k + 1)) by
        rw [← HSn.out]
        unfold entP bl
        simp only [List.append_assoc])
      clear hown4 hg4 HO3 HR3 HB3
      generalize P0 ++ putT nm.data.toList = P at *
      clear CT
      have H0 := Go.Lib.hid (show CBy w v4 P (numP en) (numP ea) (numP es) [] w4.drew from ⟨HO4.out.drew, HB4.out.trans ⟨rfl, rfl, rfl, Nat.le_refl _, fun _ _ => rfl⟩⟩)
      clear HO4 HB4
      refine wp_region_chain (by kernel_rfl) (VBy b o l.length cap k v4 en ea es) [6, 7, 14, 15, 22, 23, 24] (CBy w v4 P (numP en) (numP ea) (numP es)) (by decide +kernel) (by decide +kernel) (by rfl) (by decide +kernel) [22, 23, 24, 25, 26, 27, 28, 29, 30, 31, 32, 33, 34, 35, 36, 37, 38, 39, 40, 41, 42, 43, 44, 45, 3] (by rfl) (H0.out) ?_ ?_ ?_
      · intro i o ho hnc a w6 vs hC hlen hg
        obtain ⟨c1, c2, c3⟩ := HC.out w6 (CBy.bel hC)
        have hix := Hix.out w6
        match i, ho with
        | 0, ho =>
          obtain rfl := Option.some.inj ho
          have h3 := given_old hg 3 (by decide +kernel)
          clear hg
          exact st_yield ho (wanted_none rfl) (v4) w6 (by simp [execOp, Act.eval, h3, go_sem]) ⟨_, rfl, hC, by rintro t' ⟨⟩; rfl⟩
        | 1, ho =>
          obtain rfl := Option.some.inj ho
          have h0 := given_old hg 0 (by decide +kernel)
          clear hg
          exact st_yield ho (wanted_none rfl) (.slice (some ⟨b, o, none⟩) l.length cap) w6 (by simp [execOp, Act.eval, h0, go_sem]) ⟨_, rfl, hC, by rintro t' ⟨⟩; rfl⟩
        | 2, ho =>
          obtain rfl := Option.some.inj ho
          have h4 := given_old hg 4 (by decide +kernel)
          clear hg
          exact st_yield ho (wanted_none rfl) (.int .i64 (k : Int)) w6 (by simp [execOp, Act.eval, h4, go_sem]) ⟨_, rfl, hC, by rintro t' ⟨⟩; rfl⟩
        | 3, ho =>
          obtain rfl := Option.some.inj ho
          obtain ⟨_, h23, rfl⟩ := given_fed hg 23 (by decide +kernel)
          obtain ⟨_, h24, rfl⟩ := given_fed hg 24 (by decide +kernel)
          clear hg
          exact st_yield ho (wanted_none rfl) (.pointer (some ⟨b, o + k * 4, none⟩)) w6 (by simp [execOp, Act.eval, h23, h24, go_sem, hix]) ⟨_, rfl, hC, by rintro t' ⟨⟩; rfl⟩
        | 4, ho =>
          obtain rfl := Option.some.inj ho
          obtain ⟨_, h25, rfl⟩ := given_fed hg 25 (by decide +kernel)
          clear hg
          exact st_yield ho (wanted_none rfl) (.pointer (some ⟨b, o + k * 4 + 1, none⟩)) w6 (by simp [execOp, Act.eval, h25, go_sem]) ⟨_, rfl, hC, by rintro t' ⟨⟩; rfl⟩
        | 5, ho =>
          obtain rfl := Option.some.inj ho
          obtain ⟨_, h26, rfl⟩ := given_fed hg 26 (by decide +kernel)
          clear hg
          exact st_yield ho (wanted_none rfl) (.int .i64 en) w6 (by simp [execOp, Act.eval, h26, go_sem, c1]) ⟨_, rfl, hC, by rintro t' ⟨⟩; rfl⟩
        | 6, ho =>
          exact absurd hnc (by decide)
        | 7, ho =>
          exact absurd hnc (by decide)
        | 8, ho =>
          obtain rfl := Option.some.inj ho
          have h0 := given_old hg 0 (by decide +kernel)
          clear hg
          exact st_yield ho (wanted_none rfl) (.slice (some ⟨b, o, none⟩) l.length cap) w6 (by simp [execOp, Act.eval, h0, go_sem]) ⟨_, rfl, hC, by rintro t' ⟨⟩; rfl⟩
        | 9, ho =>
          obtain rfl := Option.some.inj ho
          have h4 := given_old hg 4 (by decide +kernel)
          clear hg
          exact st_yield ho (wanted_none rfl) (.int .i64 (k : Int)) w6 (by simp [execOp, Act.eval, h4, go_sem]) ⟨_, rfl, hC, by rintro t' ⟨⟩; rfl⟩
        | 10, ho =>
          obtain rfl := Option.some.inj ho
          obtain ⟨_, h30, rfl⟩ := given_fed hg 30 (by decide +kernel)
          obtain ⟨_, h31, rfl⟩ := given_fed hg 31 (by decide +kernel)
          clear hg
          exact st_yield ho (wanted_none rfl) (.pointer (some ⟨b, o + k * 4, none⟩)) w6 (by simp [execOp, Act.eval, h30, h31, go_sem, hix]) ⟨_, rfl, hC, by rintro t' ⟨⟩; rfl⟩
        | 11, ho =>
          obtain rfl := Option.some.inj ho
          obtain ⟨_, h32, rfl⟩ := given_fed hg 32 (by decide +kernel)
          clear hg
          exact st_yield ho (wanted_none rfl) (.pointer (some ⟨b, o + k * 4 + 2, none⟩)) w6 (by simp [execOp, Act.eval, h32, go_sem]) ⟨_, rfl, hC, by rintro t' ⟨⟩; rfl⟩
        | 12, ho =>
          obtain rfl := Option.some.inj ho
          obtain ⟨_, h33, rfl⟩ := given_fed hg 33 (by decide +kernel)
          clear hg
          exact st_yield ho (wanted_none rfl) (.pointer (some ⟨b, o + k * 4 + 2, none⟩)) w6 (by simp [execOp, Act.eval, h33, go_sem]) ⟨_, rfl, hC, by rintro t' ⟨⟩; rfl⟩
        | 13, ho =>
          obtain rfl := Option.some.inj ho
          obtain ⟨_, h34, rfl⟩ := given_fed hg 34 (by decide +kernel)
          clear hg
          exact st_yield ho (wanted_none rfl) (.int .i64 ea) w6 (by simp [execOp, Act.eval, h34, go_sem, c2]) ⟨_, rfl, hC, by rintro t' ⟨⟩; rfl⟩
        | 14, ho =>
          exact absurd hnc (by decide)
        | 15, ho =>
          exact absurd hnc (by decide)
        | 16, ho =>
          obtain rfl := Option.some.inj ho
          have h0 := given_old hg 0 (by decide +kernel)
          clear hg
          exact st_yield ho (wanted_none rfl) (.slice (some ⟨b, o, none⟩) l.length cap) w6 (by simp [execOp, Act.eval, h0, go_sem]) ⟨_, rfl, hC, by rintro t' ⟨⟩; rfl⟩
        | 17, ho =>
          obtain rfl := Option.some.inj ho
          have h4 := given_old hg 4 (by decide +kernel)
          clear hg
          exact st_yield ho (wanted_none rfl) (.int .i64 (k : Int)) w6 (by simp [execOp, Act.eval, h4, go_sem]) ⟨_, rfl, hC, by rintro t' ⟨⟩; rfl⟩
        | 18, ho =>
          obtain rfl := Option.some.inj ho
          obtain ⟨_, h38, rfl⟩ := given_fed hg 38 (by decide +kernel)
          obtain ⟨_, h39, rfl⟩ := given_fed hg 39 (by decide +kernel)
          clear hg
          exact st_yield ho (wanted_none rfl) (.pointer (some ⟨b, o + k * 4, none⟩)) w6 (by simp [execOp, Act.eval, h38, h39, go_sem, hix]) ⟨_, rfl, hC, by rintro t' ⟨⟩; rfl⟩
        | 19, ho =>
          obtain rfl := Option.some.inj ho
          obtain ⟨_, h40, rfl⟩ := given_fed hg 40 (by decide +kernel)
          clear hg
          exact st_yield ho (wanted_none rfl) (.pointer (some ⟨b, o + k * 4 + 2, none⟩)) w6 (by simp [execOp, Act.eval, h40, go_sem]) ⟨_, rfl, hC, by rintro t' ⟨⟩; rfl⟩
        | 20, ho =>
          obtain rfl := Option.some.inj ho
          obtain ⟨_, h41, rfl⟩ := given_fed hg 41 (by decide +kernel)
          clear hg
          exact st_yield ho (wanted_none rfl) (.pointer (some ⟨b, o + k * 4 + 3, none⟩)) w6 (by simp [execOp, Act.eval, h41, go_sem]) ⟨_, rfl, hC, by rintro t' ⟨⟩; rfl⟩
        | 21, ho =>
          obtain rfl := Option.some.inj ho
          obtain ⟨_, h42, rfl⟩ := given_fed hg 42 (by decide +kernel)
          clear hg
          exact st_yield ho (wanted_none rfl) (.int .i64 es) w6 (by simp [execOp, Act.eval, h42, go_sem, c3]) ⟨_, rfl, hC, by rintro t' ⟨⟩; rfl⟩
        | 22, ho =>
          exact absurd hnc (by decide)
        | 23, ho =>
          exact absurd hnc (by decide)
        | 24, ho =>
          exact absurd hnc (by decide)
        | n + 25, ho => simp at ho
      · intro j i o hj ho a w6 vs hvl hC hsl hlen hg
        match j, hj with
        | 0, hj =>
          obtain rfl : 6 = i := Option.some.inj hj
          obtain rfl := Option.some.inj ho
          obtain ⟨_, h27, rfl⟩ := given_fed hg 27 (by decide +kernel)
          clear hg
          obtain rfl := len0 hvl
          refine st_enter (w1 := w6) ho (wanted_none rfl) 24 #[.int .i64 en] (by simp [execOp, Act.eval, h27, resolve, go_sem]) ((CP.out en _ (HEn.out)).mono ?_)
          rintro e w7 ⟨v, rfl, hown, hb⟩
          exact ⟨v, rfl, v, rfl, ⟨hC.1.below hb, hown.rb, below_to hC.2 (Nat.le_refl _) hb⟩, by rintro t' ⟨⟩; trivial⟩
        | 1, hj =>
          obtain rfl : 7 = i := Option.some.inj hj
          obtain rfl := Option.some.inj ho
          obtain ⟨v22', h22, p22⟩ := given_fed hg 22 (by decide +kernel)
          have p22 : v22' = v4 := p22
          rw [p22] at h22
          clear hg
          obtain ⟨x0, rfl⟩ := len1 hvl
          have h28 : a.tmps[28]? = some x0 := hsl 0 6 _ 28 (by simp) rfl rfl rfl
          exact st_list ho (wanted_none rfl) fun Q' hQ => wpList_append_RB rfl (.tmp 22) (.tmp 28) 26 rfl w.heap.size 5 Try.underlying26 info8 v4 x0 (P) (numP en) (by simp [Act.eval, h22]) (by simp [Act.eval, h28]) hC.1 hC.2.1 (by
            have := HP.out; have := HN.out
            omega) hC.2.2.size (fun v' w' hown hg2 => wpList_nil (hQ _ _ ⟨v', rfl, ⟨hown, hC.2.2.grown hg2 hC.2.2.size hC.1.row⟩, by rintro t' ⟨⟩; trivial⟩))
        | 2, hj =>
          obtain rfl : 14 = i := Option.some.inj hj
          obtain rfl := Option.some.inj ho
          obtain ⟨_, h35, rfl⟩ := given_fed hg 35 (by decide +kernel)
          clear hg
          obtain ⟨x0, x1, rfl⟩ := len2 hvl
          refine st_enter (w1 := w6) ho (wanted_none rfl) 24 #[.int .i64 ea] (by simp [execOp, Act.eval, h35, resolve, go_sem]) ((CP.out ea _ (HEa.out)).mono ?_)
          rintro e w7 ⟨v, rfl, hown, hb⟩
          exact ⟨v, rfl, v, rfl, ⟨hC.1.below hb, hown.rb, below_to hC.2 (Nat.le_refl _) hb⟩, by rintro t' ⟨⟩; trivial⟩
        | 3, hj =>
          obtain rfl : 15 = i := Option.some.inj hj
          obtain rfl := Option.some.inj ho
          clear hg
          obtain ⟨x0, x1, x2, rfl⟩ := len3 hvl
          have h29 : a.tmps[29]? = some x1 := hsl 1 7 _ 29 (by simp) rfl rfl rfl
          have h36 : a.tmps[36]? = some x2 := hsl 2 14 _ 36 (by simp) rfl rfl rfl
          exact st_list ho (wanted_none rfl) fun Q' hQ => wpList_append_RB rfl (.tmp 29) (.tmp 36) 26 rfl w.heap.size 5 Try.underlying26 info8 x1 x2 (P ++ numP en) (numP ea) (by simp [Act.eval, h29]) (by simp [Act.eval, h36]) hC.1 hC.2.1 (by
            have := HP.out; have := HN.out
            simp only [List.length_append]; omega) hC.2.2.size (fun v' w' hown hg2 => wpList_nil (hQ _ _ ⟨v', rfl, ⟨hown, hC.2.2.grown hg2 hC.2.2.size hC.1.row⟩, by rintro t' ⟨⟩; trivial⟩))
        | 4, hj =>
          obtain rfl : 22 = i := Option.some.inj hj
          obtain rfl := Option.some.inj ho
          obtain ⟨_, h43, rfl⟩ := given_fed hg 43 (by decide +kernel)
          clear hg
          obtain ⟨x0, x1, x2, x3, rfl⟩ := len4 hvl
          refine st_enter (w1 := w6) ho (wanted_none rfl) 24 #[.int .i64 es] (by simp [execOp, Act.eval, h43, resolve, go_sem]) ((CP.out es _ (HEs.out)).mono ?_)
          rintro e w7 ⟨v, rfl, hown, hb⟩
          exact ⟨v, rfl, v, rfl, ⟨hC.1.below hb, hown.rb, below_to hC.2 (Nat.le_refl _) hb⟩, by rintro t' ⟨⟩; trivial⟩
        | 5, hj =>
          obtain rfl : 23 = i := Option.some.inj hj
          obtain rfl := Option.some.inj ho
          clear hg
          obtain ⟨x0, x1, x2, x3, x4, rfl⟩ := len5 hvl
          have h37 : a.tmps[37]? = some x3 := hsl 3 15 _ 37 (by simp) rfl rfl rfl
          have h44 : a.tmps[44]? = some x4 := hsl 4 22 _ 44 (by simp) rfl rfl rfl
          exact st_list ho (wanted_none rfl) fun Q' hQ => wpList_append_RB rfl (.tmp 37) (.tmp 44) 26 rfl w.heap.size 5 Try.underlying26 info8 x3 x4 (P ++ numP en ++ numP ea) (numP es) (by simp [Act.eval, h37]) (by simp [Act.eval, h44]) hC.1 hC.2.1 (by
            have := HP.out; have := HN.out
            simp only [List.length_append]; omega) hC.2.2.size (fun v' w' hown hg2 => wpList_nil (hQ _ _ ⟨v', rfl, ⟨hown, hC.2.2.grown hg2 hC.2.2.size hC.1.row⟩, by rintro t' ⟨⟩; trivial⟩))
        | 6, hj =>
          obtain rfl : 24 = i := Option.some.inj hj
          obtain rfl := Option.some.inj ho
          clear hg
          obtain ⟨x0, x1, x2, x3, x4, x5, rfl⟩ := len6 hvl
          have h45 : a.tmps[45]? = some x5 := hsl 5 23 _ 45 (by simp) rfl rfl rfl
          exact st_yield ho (wanted_none rfl) x5 w6 (by simp [execOp, Act.eval, h45, go_sem]) ⟨_, rfl, ⟨rfl, hC⟩, by rintro t' ⟨⟩; trivial⟩
        | n + 7, hj => simp at hj
      · intro f w6 vs hvl hC hsl hV
        obtain ⟨x0, x1, x2, x3, x4, x5, x6, rfl⟩ := len7 hvl
        obtain ⟨hx6, hown6, hb6⟩ := hC
        have h3 := hsl 6 24 _ 3 (by simp) rfl rfl rfl
        have h3 : f 3 = x5 := (Option.some.inj h3).symm.trans hx6
        have HF := Go.Lib.hid (show Own 5 w6 w.heap.size x5 (numP (l.length : Int) ++ rowP (l.take (k + 1))) by rw [← HSn2.out]; exact hown6)
        have HB6 := Go.Lib.hid hb6
        clear hsl hV hown6 hb6 HSn2 H0
        unfold putAll
        simp only [List.foldl]
        simp only [h3]
        go_simp
        go_wp2_with fail
        go_roundw
        case rel => exact ⟨k + 1, _, rfl, by have := Hlt.out; omega, by go_num, HF.out, HB6.out⟩
        case measure => simp only [intOf]; have := Hlt.out; omega
    · obtain rfl : k = l.length := by omega
      rw [List.take_of_length_le (Nat.le_refl _)] at hown
      have HO := Go.Lib.hid hown
      have HB := Go.Lib.hid hbc
      clear hown hbc
      go_wp2_with fail
      go_ret
      exact ⟨_, rfl, HO.out, HB.out⟩

end Go.Proofs.Yteickihofbkbkaa
