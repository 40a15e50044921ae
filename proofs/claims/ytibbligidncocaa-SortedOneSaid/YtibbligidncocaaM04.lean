/-
  What elements of []rune and []int are.
  The contract of the reference's Runes.
  First, Tag, Other: of the reference, of package hash.
-/
import Derived.Test.YtibbligidncocaaM01
import Derived.Test.YtibbligidncocaaM03
import Derived.Laws.BitsAllLaws
namespace Go.Proofs.Ytibbligidncocaa
open Go.RowKit

theorem info32 : (Try.prog.info? 21).map (fun i => (i.zero, i.size, i.bytes)) = some (some (.int .i32 0), 1, 4) := by kernel_rfl

theorem info64 : (Try.prog.info? 3).map (fun i => (i.zero, i.size, i.bytes)) = some (some (.int .i64 0), 1, 8) := by kernel_rfl

end Go.Proofs.Ytibbligidncocaa

namespace Go.Proofs.Ytibbligidncocaa
open Go.RowKit

/-- Where each begins. -/
def posl (l : List UInt8) : List Nat := (List.range (toks l).length).map (posOf l)

theorem posl_length (l : List UInt8) : (posl l).length = (toks l).length := by simp [posl]

theorem posl_at (l : List UInt8) (i : Nat) (h : i < (posl l).length) : (posl l)[i] = posOf l i := by simp [posl]

theorem posl_more (l : List UInt8) (n : Nat) (h : n < (toks l).length) : zi .i64 ((posl l).take n) ++ [.int .i64 (posOf l n : Int)] = zi .i64 ((posl l).take (n + 1)) := by
  have h' : n < (posl l).length := by rw [posl_length]; exact h
  rw [List.take_succ_eq_append_getElem h', zi_append, posl_at]
  rfl

set_option maxHeartbeats 1000000 in
set_option maxRecDepth 100000 in
theorem rrunes_c (s : ByteArray) (w : World) (hm : s.size ≤ 1000000000) :
    Calls Try.prog 66 #[.string s] w fun e w' => ∃ v1 v2, e = .returned (.tuple #[v1, v2]) ∧ OwnV 21 w' w.heap.size v1 (zi .i32 (runesOf (toks (bl s)))) ∧ OwnV 3 w' w.heap.size v2 (zi .i64 (posl (bl s))) ∧ Below w.heap.size w w' := by
  have hl1 := toks_length (bl s)
  rw [← bl_size] at hl1
  obtain ⟨T, hT⟩ : ∃ T, T = (toks (bl s)).length := ⟨_, rfl⟩
  rw [← hT] at hl1
  have HT := Go.Lib.hid hT; clear hT
  go_enter Try.func66, Try.ntmps66
  go_wp2
  go_loopw [4, 5, 6] (fun u1 u2 u wr => ∃ (n p : Nat) (v1 v2 : Value), v1 = u1 ∧ v2 = u2 ∧ n ≤ T ∧ u = .int .i64 (p : Int) ∧ p ≤ s.size ∧ Hid (p = posOf (bl s) n) ∧ OwnV 21 wr w.heap.size v1 (zi .i32 ((runesOf (toks (bl s))).take n)) ∧ OwnV 3 wr w.heap.size v2 (zi .i64 ((posl (bl s)).take n)) ∧ Below w.heap.size w wr) (fun _ _ u _ => s.size - (intOf u).toNat)
  case atStart => exact ⟨0, 0, _, _, rfl, rfl, by omega, rfl, by omega, rfl, OwnV.nil _ _ _, OwnV.nil _ _ _, Below.refl _ _⟩
  case round =>
    obtain ⟨n, p, v1, v2, rfl, rfl, hn, rfl, hps, hp, hown1, hown2, hbw⟩ := hrel
    by_cases hlt : n < T
    · have hT' : n < (toks (bl s)).length := by rw [← HT.out]; exact hlt
      have hne := drop_ne (bl s) n hT'
      rw [← hp.out] at hne
      have hplt : p < s.size := by
        rw [bl_size]
        exact Nat.lt_of_not_le fun hh => hne (List.drop_eq_nil_of_le hh)
      have hsz : (s.extract p s.size).size ≤ maxLen := by rw [ByteArray.size_extract]; unfold maxLen; omega
      have C := fun W => decode_c (s.extract p s.size) W (by rw [drop_bl]; exact hne) hsz
      rw [drop_bl] at C
      have hsucc := posOf_succ (bl s) n hT'
      have hm1 := Go.Lib.hid (zi_more .i32 (toks (bl s)) n hT')
      have hm2 := Go.Lib.hid (posl_more (bl s) n hT')
      have hg := congrArg Prod.fst (get_toks (bl s) n hT')
      have hple := posOf_le (bl s) (n + 1)
      rw [← bl_size] at hple
      rw [← hp.out] at hsucc hg hm2
      have hdw := (dw_le _ hne).1
      rw [hsucc] at hple
      have hn1 : (zi .i32 ((runesOf (toks (bl s))).take n)).length = n := by rw [zi_length, List.length_take, runesOf_length]; omega
      have hn2 : (zi .i64 ((posl (bl s)).take n)).length = n := by rw [zi_length, List.length_take, posl_length]; omega
      simp only at hg
      rw [hg] at hm1
      clear hsz hne hg
      unfold dv at C
      generalize (bl s).drop p = L at *
      have Hsucc := Go.Lib.hid hsucc; clear hsucc
      have HC := Go.Lib.hid C; clear C
      generalize dr L = r at *
      generalize dw L = d at *
      generalize okB L = ok at *
      have Hn1 := Go.Lib.hid hn1; clear hn1
      have Hn2 := Go.Lib.hid hn2; clear hn2
      generalize zi .i32 ((runesOf (toks (bl s))).take n) = z1 at *
      generalize zi .i64 ((posl (bl s)).take n) = z2 at *
      go_wp2_with (first
        | (refine (HC.out _).mono ?_; rintro e w1 ⟨rfl, rfl⟩)
        | (with_reducible show wpList _ _ _ (⟨some 25, _, _, _, _, _⟩ :: _) _ _; go_loud (refine wpList_append_RV rfl (.tmp 22) (.tmp 24) 88 rfl w.heap.size 21 Try.underlying88 (.int .i32 0) 4 rfl info32 v1 (.slice (some ⟨wr.heap.size, 0, none⟩) 1 1) z1 [.int .i32 (r : Int)] rfl rfl (hown1.alloc _) (RV.one _ _ _) (one_one _ _) (by rw [Hn1.out]; simp only [List.length_cons, List.length_nil]; omega) (by rw [Hn1.out]; simp only [List.length_cons, List.length_nil]; omega) (hbw.alloc hbw.size _).size ?_); intro v3 w3 hown3 hg3; have hb3 := (hbw.alloc hbw.size _).grown hg3 (hbw.alloc hbw.size _).size hown1.row; have hown2' := (hown2.alloc _).kept hg3 (own_apart (by decide) hown1 hown2))
        | (with_reducible show wpList _ _ _ (⟨some 29, _, _, _, _, _⟩ :: _) _ _; go_loud (refine wpList_append_RV rfl (.tmp 26) (.tmp 28) 63 rfl w.heap.size 3 Try.underlying63 (.int .i64 0) 8 rfl info64 v2 (.slice (some ⟨w3.heap.size, 0, none⟩) 1 1) z2 [.int .i64 (p : Int)] rfl rfl (hown2'.alloc _) (RV.one _ _ _) (one_one _ _) (by rw [Hn2.out]; simp only [List.length_cons, List.length_nil]; omega) (by rw [Hn2.out]; simp only [List.length_cons, List.length_nil]; omega) (hb3.alloc hb3.size _).size ?_); intro v5 w5 hown5 hg5; have hb5 := (hb3.alloc hb3.size _).grown hg5 (hb3.alloc hb3.size _).size hown2'.row; have hown3' := (hown3.alloc _).kept hg5 (own_apart (by decide) hown2' hown3))
        | fail)
      go_roundw
      case rel => exact ⟨n + 1, p + d, _, _, rfl, rfl, by omega, by go_num, by omega, Hsucc.out.symm, by rw [← hm1.out]; exact hown3', by rw [← hm2.out]; exact hown5, hb5⟩
      case measure => simp [intOf]; omega
    · have hpe : p = s.size := by
        rw [hp.out, posOf_all (bl s) n (by rw [← HT.out]; omega), bl_size]
      rw [List.take_of_length_le (by rw [runesOf_length, ← HT.out]; omega)] at hown1
      rw [List.take_of_length_le (by rw [posl_length, ← HT.out]; omega)] at hown2
      clear hp
      subst hpe
      go_wp2
      go_ret2
      exact ⟨_, _, rfl, hown1, hown2, hbw⟩

end Go.Proofs.Ytibbligidncocaa

namespace Go.Proofs.Ytibbligidncocaa
open Go.RowKit

def firstN (h : Nat) : Nat := h % 8
def tagN (h : Nat) : Nat := h / 256 % 32768
def otherI (b tag : Int) : Int := if b < 0 ∨ 7 < b ∨ tag < 0 ∨ 32767 < tag then -1 else ((b.toNat ^^^ (1 + tag.toNat % 7) : Nat) : Int)

theorem otherI_bad {b t : Int} (h : b < 0 ∨ 7 < b ∨ t < 0 ∨ 32767 < t) : otherI b t = -1 := by unfold otherI; rw [if_pos h]
theorem otherI_ok {b t : Nat} (hb : b ≤ 7) (ht : t ≤ 32767) : otherI (b : Int) (t : Int) = ((b ^^^ (1 + t % 7) : Nat) : Int) := by
  unfold otherI
  rw [if_neg (by omega), Int.toNat_natCast, Int.toNat_natCast]
theorem i64_xor_small (a b : Nat) (ha : a < 128) (hb : b < 128) : bits .xor .i64 (a : Int) (b : Int) = ((a ^^^ b : Nat) : Int) := by
  have hx : a ^^^ b < 2 ^ 7 := Nat.xor_lt_two_pow (by omega) (by omega)
  show IntKind.i64.wrap ((BitVec.ofInt 64 (a : Int) ^^^ BitVec.ofInt 64 (b : Int)).toNat : Int) = _
  have e (a : Nat) (h : a < 128) : (BitVec.ofInt 64 (a : Int)).toNat = a := by
    rw [BitVec.ofInt_natCast, BitVec.toNat_ofNat]; exact Nat.mod_eq_of_lt (by omega)
  rw [BitVec.toNat_xor, e a ha, e b hb, IntKind.wrap_i64]
  omega
end Go.Proofs.Ytibbligidncocaa
