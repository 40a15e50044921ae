/-
  The contract of the laws' begun.
-/
import Derived.Test.YtfhbpaecpoijfaaGam
namespace Go.Proofs.Ytfhbpaecpoijfaa
open Go.RowKit

def L6 : List Bool := gams [1, 5]
theorem L6_def : ([] ++ gam 1) ++ gam 5 = L6 := rfl
theorem L6_len : L6.length = 6 := by decide +kernel
theorem L6_get : getGV L6 1 = .tuple #[.int .u64 5, .int .i64 6, .bool true] := getGV_some (i := 1) (show getG L6 1 = some (5, 6) by decide +kernel)
theorem L6_all : allG L6 2 0 = some ([1, 5], 6) := by decide +kernel

set_option maxHeartbeats 2000000 in
set_option maxRecDepth 100000 in
theorem begun_c (w : World) : Calls Try.prog 7 #[] w fun e w' => e = .returned (.bool true) ∧ Below w.heap.size w w' := by
  have hn := Go.Lib.hid (BT.new w)
  have hb0 : Below w.heap.size w (w.alloc (.cells #[.slice none 0 0, .int .i64 0] 26)) := (Below.refl _ _).alloc (Nat.le_refl _) _
  have h6 := Go.Lib.hid L6_len
  have hg := Go.Lib.hid L6_get
  have ha := Go.Lib.hid L6_all
  go_enter Try.func7, Try.ntmps7
  go_wp2_with fail
  refine (gput_c 1 _ _ _ _ _ hn.out (by decide) (by decide)).mono ?_
  rintro e w1 ⟨rfl, v1, h1, k1, -⟩
  have hb1 := hb0.trans (k1.below (Nat.le_refl _) (fun k hk => by cases hk) hb0.size)
  have H1 := Go.Lib.hid h1
  have e1 : ((1 : Nat) != 0) = true := rfl
  rw [e1]
  clear h1 k1 hb0 hn e1
  go_wp2_with fail
  refine (gput_c 5 _ _ _ _ _ H1.out (by decide) (by decide)).mono ?_
  rintro e w2 ⟨rfl, v2, h2, k2, -⟩
  have hb2 := hb1.trans (k2.below (Nat.le_refl _) H1.out.rows hb1.size)
  rw [L6_def] at h2
  have H2 := Go.Lib.hid h2
  have e1 : ((5 : Nat) != 0) = true := rfl
  rw [e1]
  clear h2 k2 hb1 H1 e1
  generalize L6 = L at *
  go_wp2_with fail
  refine (gget_c 1 _ _ _ _ _ H2.out (by rw [h6.out]; decide) (by decide) (by decide)).mono ?_
  rintro e w3 ⟨rfl, k3⟩
  have hb3 := hb2.trans (k3.mono hb2.size)
  have H3 := Go.Lib.hid (H2.out.below k3)
  rw [hg.out]
  clear k3 hb2 H2
  go_wp2_with fail
  refine (gall_yes 0 2 _ _ _ _ _ _ _ H3.out (by rw [h6.out]; decide) (by decide) (by decide) (by decide) ha.out).mono ?_
  rintro e w4 ⟨v4, rfl, hr4, k4⟩
  have hb4 := hb3.trans (k4.mono hb3.size)
  have H4 := Go.Lib.hid (H3.out.below k4)
  obtain ⟨a4, c4, rfl, -⟩ := hr4.form
  have e2 : (zi .u64 [1, 5]).length = 2 := rfl
  rw [e2] at hr4 ⊢
  have hr4' := Go.Lib.hid hr4
  clear k4 hb3 H3 hr4 e2
  go_wp2_with fail
  refine (gput_zero _ _).mono ?_
  rintro e w5 ⟨rfl, rfl⟩
  have H4l := H4.out
  rw [h6.out] at H4l
  have H4L := Go.Lib.hid H4l
  clear H4l
  go_wp2_with fail
  refine (len_c _ _ _ _ _ _ H4L.out).mono ?_
  rintro e w5 ⟨rfl, rfl⟩
  obtain ⟨b, o, rfl, c0, -⟩ := hr4'.out.at 0 (by decide)
  have e0 : (zi .u64 [1, 5])[0]'(by decide) = .int .u64 1 := rfl
  rw [e0, Nat.add_zero] at c0
  clear e0
  have C5 := fun W => glen_c 5 W (by decide)
  have C0 := fun W => glen_c 0 W (by decide)
  rw [show (gam 5).length = 5 from by decide +kernel] at C5
  rw [show (gam 0).length = 0 from rfl] at C0
  have K5 := Go.Lib.hid C5
  have K0 := Go.Lib.hid C0
  clear C5 C0
  go_wp2_with fail
  refine (K5.out _).mono ?_
  rintro e w5 ⟨rfl, rfl⟩
  go_wp2_with fail
  refine (K0.out _).mono ?_
  rintro e w5 ⟨rfl, rfl⟩
  go_wp2_with fail
  go_ret
  exact ⟨rfl, hb4⟩

end Go.Proofs.Ytfhbpaecpoijfaa
