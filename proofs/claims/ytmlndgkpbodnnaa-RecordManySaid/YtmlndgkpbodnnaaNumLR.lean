/-
  Contract of the reference's GetText.
-/
import Derived.Test.YtmlndgkpbodnnaaNumL
import Derived.Test.YtmlndgkpbodnnaaNumGR
namespace Go.Proofs.Ytmlndgkpbodnnaa
open Go.RowKit
open Go.Lib (uvarint zigzag)

theorem rgetText_c (v : Value) (l : List UInt8) (w : World) (hv : RB w v l) :
    Calls Try.prog 50 #[v] w fun e w' => e = .returned (tv (textB l)) ∧ w = w' := by
  have hrb := hv
  obtain ⟨a, cap, rfl, h1, h2, h3, h4⟩ := hv
  have hm : l.length ≤ 9223372036854775807 := by unfold maxLen at h2; omega
  clear h4 h3
  have hget := rget_c (.slice a l.length cap) l w hrb
  have hfit := getB_fits l
  have htx : textB l = textB l := rfl
  conv at htx => rhs; unfold textB
  rcases hr : getB l with ⟨n, k, er⟩
  rw [hr] at hget hfit htx
  simp only [] at hfit htx
  obtain ⟨f1, f2, f3, f4, f5, f6⟩ := hfit
  have Hget := Go.Lib.hid hget; clear hget
  have Hr := Go.Lib.hid hr; clear hr
  have Htx := Go.Lib.hid htx; clear htx
  by_cases her : er = 0
  · subst her
    by_cases hn : n < 0 ∨ 65536 < n
    · have htx := Htx.out
      rw [if_neg (by simp), if_pos hn] at htx
      have Ht := Go.Lib.hid htx; clear htx
      by_cases hn0 : n < 0
      all_goals
        go_enter Try.func50, Try.ntmps50
        go_wp2_with (go_at_call 51; refine Hget.out.mono ?_; rintro e w1 ⟨rfl, rfl⟩; unfold gv)
        go_ret3
        exact ⟨ret_tv (r := ([], 0, 1)) rfl Ht.out.symm, rfl⟩
    · by_cases hlen : l.length < k + n.toNat
      · have htx := Htx.out
        rw [if_neg (by simp), if_neg hn, if_pos hlen] at htx
        have Ht := Go.Lib.hid htx; clear htx
        go_enter Try.func50, Try.ntmps50
        go_wp2_with (go_at_call 51; refine Hget.out.mono ?_; rintro e w1 ⟨rfl, rfl⟩; unfold gv)
        go_ret3
        exact ⟨ret_tv (r := ([], 0, 2)) rfl Ht.out.symm, rfl⟩
      · obtain ⟨m, rfl⟩ : ∃ m : Nat, n = (m : Int) := ⟨n.toNat, by omega⟩
        have htx := Htx.out
        rw [if_neg (by simp), if_neg hn, if_neg hlen, Int.toNat_natCast] at htx
        have ht2 : textB l = ((l.take (k + m)).drop k, k + m, 0) := by rw [htx, List.drop_take, show k + m - k = m from by omega]
        have Ht := Go.Lib.hid ht2; clear htx ht2
        rw [Int.toNat_natCast] at hlen
        go_enter Try.func50, Try.ntmps50
        go_wp2_with (first
          | (go_at_call 51; refine Hget.out.mono ?_; rintro e w1 ⟨rfl, rfl⟩; unfold gv)
          | (with_reducible show wpList _ _ _ (⟨some 34, _, _, _, _, _⟩ :: _) _ _; go_loud (refine wpList_slice_lh rfl (.tmp 29) (.tmp 30) (.tmp 33) 26 rfl 5 Try.underlying26 info8 (.slice a l.length cap) l .i64 .i64 _ _ k (k + m) rfl rfl rfl rfl (by omega) hrb (by omega) (by omega) ?_); intro v2 hv2)
          | (with_reducible show wpList _ _ _ (⟨some 35, _, _, _, _, _⟩ :: _) _ _; go_loud (refine wpList_string_RB rfl (.tmp 34) 26 9 rfl 5 Try.underlying26 Try.underlying5 Try.underlying9 v2 _ rfl hv2 ?_)))
        go_ret3
        exact ⟨ret_tv (r := ((l.take (k + m)).drop k, k + m, 0)) rfl Ht.out.symm, rfl⟩
  · have htx := Htx.out
    rw [if_pos her] at htx
    have Ht := Go.Lib.hid htx; clear htx
    go_enter Try.func50, Try.ntmps50
    go_wp2_with (go_at_call 51; refine Hget.out.mono ?_; rintro e w1 ⟨rfl, rfl⟩; unfold gv)
    go_ret3
    exact ⟨ret_tv (r := ([], 0, er)) rfl Ht.out.symm, rfl⟩

end Go.Proofs.Ytmlndgkpbodnnaa
