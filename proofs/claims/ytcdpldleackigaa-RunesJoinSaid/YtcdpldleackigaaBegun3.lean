/-
  The contract of the laws' begun.
-/
import Derived.Test.YtcdpldleackigaaRunR
namespace Go.Proofs.Ytcdpldleackigaa
open Go.RowKit

theorem k1 : runesOf (toks (bl ⟨#[97, 195, 169, 255]⟩)) = [97, 233, 65533] := by decide +kernel
theorem k2 : atv (bl ⟨#[97, 195, 169, 98]⟩) 2 = .tuple #[.int .i32 98, .int .i64 3, .bool true] := by kernel_rfl
theorem k3 : atv (bl ⟨#[97]⟩) 1 = .tuple #[.int .i32 0, .int .i64 0, .bool false] := by kernel_rfl
theorem k4 : (((toks (bl ⟨#[226, 130, 172]⟩)).length : Nat) : Int) = 1 := by decide +kernel
theorem k5 : wellB (toks (bl ⟨#[239, 191, 189]⟩)) = true := by decide +kernel
theorem k6 : wellB (toks (bl ⟨#[255]⟩)) = false := by decide +kernel
theorem k7 : str (cutl (bl ⟨#[97, 195, 169, 98]⟩) 2) = ⟨#[97, 195, 169]⟩ := by kernel_rfl

theorem of_k (s : ByteArray) (l : List Nat) (h : runesOf (toks (bl s)) = l) (hm : s.size ≤ 1000000000) (w : World) :
    Calls Try.prog 12 #[.string s] w fun e w' => ∃ v, e = .returned v ∧ OwnV 21 w' w.heap.size v (zi .i32 l) ∧ Below w.heap.size w w' := by subst h; exact of_c s w hm
theorem at_k (s : ByteArray) (m : Int) (r : Value) (h : atv (bl s) m = r) (hm : s.size ≤ 1000000000) (w : World) :
    Calls Try.prog 16 #[.string s, .int .i64 m] w fun e w' => e = .returned r ∧ Below w.heap.size w w' := by subst h; exact at_c s m w hm
theorem count_k (s : ByteArray) (n : Int) (h : (toks (bl s)).length = n) (hm : s.size ≤ 1000000000) (w : World) :
    Calls Try.prog 13 #[.string s] w fun e w' => e = .returned (.int .i64 n) ∧ Below w.heap.size w w' := by subst h; exact count_c s w (by omega)
theorem valid_k (s : ByteArray) (b : Bool) (h : wellB (toks (bl s)) = b) (hm : s.size ≤ 1000000000) (w : World) :
    Calls Try.prog 14 #[.string s] w fun e w' => e = .returned (.bool b) ∧ Below w.heap.size w w' := by subst h; exact valid_c s w hm
theorem cut_k (s t : ByteArray) (n : Int) (h : str (cutl (bl s) n) = t) (hm : s.size ≤ 1000000000) (w : World) :
    Calls Try.prog 17 #[.string s, .int .i64 n] w fun e w' => e = .returned (.string t) ∧ Below w.heap.size w w' := by subst h; exact rcut_c s n w hm

theorem z4 (a b c d : UInt8) : (⟨#[a, b, c, d]⟩ : ByteArray).size ≤ 1000000000 := by show 4 ≤ _; omega
theorem z3 (a b c : UInt8) : (⟨#[a, b, c]⟩ : ByteArray).size ≤ 1000000000 := by show 3 ≤ _; omega
theorem z1 (a : UInt8) : (⟨#[a]⟩ : ByteArray).size ≤ 1000000000 := by show 1 ≤ _; omega

set_option maxHeartbeats 1000000 in
set_option maxRecDepth 100000 in
theorem begun_c (w : World) : Calls Try.prog 9 #[] w fun e w' => e = .returned (.bool true) ∧ Below w.heap.size w w' := by
  have c1 := of_k ⟨#[97, 195, 169, 255]⟩ [97, 233, 65533] k1 (z4 ..) w
  have c2 := at_k ⟨#[97, 195, 169, 98]⟩ 2 _ k2 (z4 ..)
  have c3 := at_k ⟨#[97]⟩ 1 _ k3 (z1 _)
  have c4 := count_k ⟨#[226, 130, 172]⟩ 1 k4 (z3 ..)
  have c5 := valid_k ⟨#[239, 191, 189]⟩ true k5 (z3 ..)
  have c6 := valid_k ⟨#[255]⟩ false k6 (z1 _)
  have c7 := cut_k ⟨#[97, 195, 169, 98]⟩ ⟨#[97, 195, 169]⟩ 2 k7 (z4 ..)
  have C1 := Go.Lib.hid c1; clear c1
  have C2 := Go.Lib.hid c2; clear c2
  have C3 := Go.Lib.hid c3; clear c3
  have C4 := Go.Lib.hid c4; clear c4
  have C5 := Go.Lib.hid c5; clear c5
  have C6 := Go.Lib.hid c6; clear c6
  have C7 := Go.Lib.hid c7; clear c7
  go_enter Try.func9, Try.ntmps9
  go_wp2_with (refine C1.out.mono ?_; rintro e w1 ⟨v, rfl, hown, hb⟩)
  refine (C2.out _).mono ?_
  rintro e w2 ⟨rfl, hb2⟩
  have hv2 := hown.rv.below hb2
  have hbb2 := hb.trans (hb2.mono hb.size)
  clear hown hb hb2 C1 C2
  go_wp2_with fail
  refine (C3.out _).mono ?_
  rintro e w3 ⟨rfl, hb3⟩
  have hv3 := hv2.below hb3
  have hbb3 := hbb2.trans (hb3.mono hbb2.size)
  clear hv2 hbb2 hb3 C3
  obtain ⟨a, cap, rfl, hcap⟩ := hv3.form
  obtain ⟨b, o, rfl, hc1, hblt⟩ := hv3.at 1 (by simp [zi])
  obtain ⟨b', o', hbo, hc2, -⟩ := hv3.at 2 (by simp [zi])
  cases hbo
  clear hv3 hcap hblt
  have e1 : (zi .i32 [97, 233, 65533]).length = 3 := rfl
  have e2 : (zi .i32 [97, 233, 65533])[1] = .int .i32 233 := rfl
  have e3 : (zi .i32 [97, 233, 65533])[2] = .int .i32 65533 := rfl
  rw [e1]
  rw [e2] at hc1
  rw [e3] at hc2
  clear e1 e2 e3
  go_wp2_with fail
  refine (C4.out _).mono ?_
  rintro e w4 ⟨rfl, hb4⟩
  have hbb4 := hbb3.trans (hb4.mono hbb3.size)
  clear C4 hbb3 hb4 hc1 hc2
  go_wp2_with fail
  refine (C5.out _).mono ?_
  rintro e w5 ⟨rfl, hb5⟩
  have hbb5 := hbb4.trans (hb5.mono hbb4.size)
  clear C5 hbb4 hb5
  go_wp2_with fail
  refine (C6.out _).mono ?_
  rintro e w6 ⟨rfl, hb6⟩
  have hbb6 := hbb5.trans (hb6.mono hbb5.size)
  clear C6 hbb5 hb6
  go_wp2_with fail
  refine (C7.out _).mono ?_
  rintro e w7 ⟨rfl, hb7⟩
  have hbb7 := hbb6.trans (hb7.mono hbb6.size)
  clear C7 hbb6 hb7
  go_wp2_with fail
  go_ret
  exact ⟨rfl, hbb7⟩

end Go.Proofs.Ytcdpldleackigaa
