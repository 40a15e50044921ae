/-
  Contracts of crc's Sum and More.
-/
import Derived.Test.YtiejjiccncmeiaaDoorCrcM
import Derived.Lib.LaidTab
import Derived.Laws.BitsAllLaws
import Derived.Deep.QuietTactic
namespace Go.Proofs.YtiejjiccncmeiaaDoor
open Go.RowKit

theorem gNib : Tryd.prog.globalNamed "loess/crc.byNibble" = some 0 := by kernel_rfl

/-- The table lies as the text lays it. -/
def Tab (w : World) : Prop := ∀ i, i < 16 → w.cell? ⟨0, i, none⟩ = some (.int .u32 (nibTab.getD i 0))

theorem Tab.of {w : World} (h : Lib.TabIs Tryd.prog w "loess/crc.byNibble" .u32 nibTab) : Tab w := fun i hi => Lib.TabIs.cell h gNib i hi

theorem Tab.below {w w' : World} (h : Tab w) (hb : Below w.heap.size w w') : Tab w' := fun i hi => (hb.cell (World.block_lt_of_cell? w _ (h i hi))).trans (h i hi)

theorem wrap_u32 (n : Int) : IntKind.u32.wrap n = n % 4294967296 := IntKind.wrap_u32' n

theorem x_xor (a b : U) : bits .xor .u32 (a.toNat : Int) (b.toNat : Int) = ((a ^^^ b).toNat : Int) := by
  show IntKind.u32.wrap ((BitVec.ofInt 32 (a.toNat : Int) ^^^ BitVec.ofInt 32 (b.toNat : Int)).toNat : Int) = _
  have e (a : U) : BitVec.ofInt 32 (a.toNat : Int) = a := by
    apply BitVec.eq_of_toNat_eq
    rw [BitVec.toNat_ofInt]
    have := a.isLt
    omega
  rw [e, e, wrap_u32]
  have := (a ^^^ b).isLt
  omega
theorem x_not (a : U) : bits .xor .u32 IntKind.u32.max (a.toNat : Int) = ((~~~ a).toNat : Int) := by
  have h := x_xor (BitVec.allOnes 32) a
  have e : ((BitVec.allOnes 32).toNat : Int) = IntKind.u32.max := by rw [BitVec.toNat_allOnes]; rfl
  rw [BitVec.allOnes_xor, e] at h
  exact h
theorem not_nat (a : U) : 4294967295 - a.toNat = (~~~ a).toNat := by rw [BitVec.toNat_not]
theorem ret_u {a b : Int} (h : a = b) : Ending.returned (.int .u32 a) = .returned (.int .u32 b) := by rw [h]
theorem x_byte (a : U) (c : UInt8) : bits .xor .u32 (a.toNat : Int) ((c.toNat : Int) % 4294967296) = ((a ^^^ byte8 c).toNat : Int) := by
  rw [← x_xor]
  congr 1
theorem x_and15 (a : U) : bits .and .u32 (a.toNat : Int) 15 = ((a &&& 15#32).toNat : Int) := by
  have := u32_and_nat a.toNat 15 a.isLt (by decide)
  rw [BitVec.toNat_and]
  exact this
theorem tab_fits : ∀ k, k < 16 → 0 ≤ nibTab.getD k 0 ∧ nibTab.getD k 0 < 4294967296 := by decide
theorem x_nib (a : U) : bits .xor .u32 (nibTab.getD (a &&& 15#32).toNat 0) ((a.toNat : Int) / 16) = ((nib a).toNat : Int) := by
  have h := x_xor (BitVec.ofInt 32 (nibTab.getD (a &&& 15#32).toNat 0)) (a >>> 4)
  have hf := tab_fits _ (low_lt a)
  have e1 : ((BitVec.ofInt 32 (nibTab.getD (a &&& 15#32).toNat 0)).toNat : Int) = nibTab.getD (a &&& 15#32).toNat 0 := by
    rw [BitVec.toNat_ofInt]
    omega
  have e2 : ((a >>> 4).toNat : Int) = (a.toNat : Int) / 16 := by
    rw [BitVec.toNat_ushiftRight, Nat.shiftRight_eq_div_pow]
    omega
  rw [e1, e2] at h
  rw [h]
  rfl

/-- What one nibble's region needs. -/
theorem nibble (x : U) {w : World} (hT : Tab w) : ∃ (n : Nat) (y : Int), n < 16 ∧ bits .and .u32 (x.toNat : Int) 15 = (n : Int) ∧ w.cell? ⟨0, n, none⟩ = some (.int .u32 y) ∧ bits .xor .u32 y ((x.toNat : Int) / 16) = ((nib x).toNat : Int) :=
  ⟨_, _, low_lt x, x_and15 x, hT _ (low_lt x), x_nib x⟩

set_option maxRecDepth 100000 in
theorem more_c (s : U) (v : Value) (l : List UInt8) (w : World) (hT : Tab w) (hv : RB w v l) :
    Calls Tryd.prog 35 #[.int .u32 (s.toNat : Int), v] w fun e w' => e = .returned (.int .u32 ((crcMore s l).toNat : Int)) ∧ w = w' := by
  obtain ⟨a, cap, rfl, h1, h2, h3, h4⟩ := hv
  have hm : l.length ≤ 9223372036854775807 := by unfold maxLen at h2; omega
  have H4 := Go.Lib.hid h4; clear h4
  have HT := Go.Lib.hid hT; clear hT
  clear h3
  have hn := x_not s
  go_enter Tryd.func35, Tryd.ntmps35
  go_wp2_with fail
  clear hn
  go_loop [5, 7, 12] (fun r c i => ∃ k : Nat, ∃ t : U, k ≤ l.length ∧ i = .int .i64 (k : Int) ∧ r = .int .u32 (t.toNat : Int) ∧ Hid (t = run (~~~ s) (l.take k))) (fun _ _ i => l.length - (intOf i).toNat)
  case atStart => exact ⟨0, ~~~ s, by omega, rfl, by rw [not_nat], by simp [Hid, run]⟩
  case round =>
    obtain ⟨k, t, hk, rfl, rfl, ht⟩ := hrel
    by_cases hlt : k < l.length
    · obtain ⟨b, o, rfl, hc⟩ := H4.out (by intro e; subst e; simp at hlt)
      have hck := hc k hlt
      clear hc
      have hst : run (~~~ s) (l.take (k + 1)) = upd (run (~~~ s) (l.take k)) l[k] := by rw [List.take_succ_eq_append_getElem hlt, run_append]; rfl
      rw [← ht.out] at hst
      clear ht
      generalize l[k] = c at hck hst
      rw [← upd_nib] at hst
      have hx := x_byte t c
      obtain ⟨n1, y1, hn1, ha1, hc1, hx1⟩ := nibble (t ^^^ byte8 c) HT.out
      obtain ⟨n2, y2, hn2, ha2, hc2, hx2⟩ := nibble (nib (t ^^^ byte8 c)) HT.out
      have Hst := Go.Lib.hid hst; clear hst
      generalize nib (nib (t ^^^ byte8 c)) = x3 at Hst hx2
      generalize nib (t ^^^ byte8 c) = x2 at hx1 ha2 hx2
      generalize (t ^^^ byte8 c) = x1 at hx ha1 hx1
      go_wp2
      go_round
      case rel => exact ⟨k + 1, x3, by omega, by go_num, rfl, Hst.out.symm⟩
      case measure => simp [intOf]; omega
    · have hn := x_not t
      go_wp2
      go_ret
      refine ⟨ret_u ?_, rfl⟩
      rw [not_nat, ht.out, List.take_of_length_le (by omega)]
      rfl

theorem sum_c (v : Value) (l : List UInt8) (w : World) (hT : Tab w) (hv : RB w v l) :
    Calls Tryd.prog 34 #[v] w fun e w' => e = .returned (.int .u32 ((crcSum l).toNat : Int)) ∧ w = w' := by
  have h0 : ((0#32 : U).toNat : Int) = 0 := rfl
  have c := more_c 0#32 v l w hT hv
  rw [h0] at c
  have C := Go.Lib.hid c; clear c h0 hT hv
  go_enter Tryd.func34, Tryd.ntmps34
  go_wp2_with (refine C.out.mono ?_; rintro e w1 ⟨rfl, rfl⟩)
  go_ret
  exact ⟨rfl, rfl⟩

/-- In a region that draws its order. -/
theorem sum_q (v : Value) (l : List UInt8) (w : World) (n : Nat) (hT : Tab w) (hv : RB w v l) :
    Calls Tryd.prog 34 #[v] (w.drewN n) fun e w' => e = .returned (.int .u32 ((crcSum l).toNat : Int)) ∧ ∃ m, w' = w.drewN m :=
  Calls.quiet_of_same ((sum_c v l _ (hT.below (below_drewN (Below.refl _ _) n)) (hv.drewN n)).mono fun _ _ ⟨h, hw⟩ => ⟨h, hw.symm⟩)

end Go.Proofs.YtiejjiccncmeiaaDoor
