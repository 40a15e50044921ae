/-
  What Decode and At answer.
  The contract of the reference's Decode.
  The contract of the reference's Valid.
-/
import Derived.Test.YtkddleonmkhaiaaGreatM01
import Derived.Test.YtkddleonmkhaiaaGreatM03
namespace Go.Proofs.YtkddleonmkhaiaaGreat
open Go.RowKit

def dv (r n : Nat) (ok : Bool) : Value := .tuple #[.int .i32 (r : Int), .int .i64 (n : Int), .bool ok]

end Go.Proofs.YtkddleonmkhaiaaGreat

namespace Go.Proofs.YtkddleonmkhaiaaGreat
open Go.RowKit

theorem at_get (s : ByteArray) (j : Nat) (h : j < s.size) : (s[j]'h).toNat = atB (bl s) j := by
  have h' : j < (bl s).length := by rw [← bl_size]; exact h
  unfold atB
  rw [List.getD_eq_getElem?_getD, List.getElem?_eq_getElem h', Option.getD_some]
  rfl

theorem ret_dv {r r' n n' : Nat} {ok ok' : Bool} (h : r' = r ∧ n' = n ∧ ok' = ok) : Ending.returned (.tuple #[.int .i32 (r : Int), .int .i64 (n : Int), .bool ok]) = .returned (dv r' n' ok') := by
  obtain ⟨rfl, rfl, rfl⟩ := h
  rfl

theorem conts_more {l : List UInt8} {k : Nat} (h : Conts l k) (hk : 128 ≤ atB l k ∧ atB l k ≤ 191) : Conts l (k + 1) := by
  intro j h1 h2
  rcases Nat.lt_or_ge j k with h3 | h3
  · exact h j h1 h3
  · obtain rfl : j = k := by omega
    exact hk

theorem acc_more (l : List UInt8) (r0 k : Nat) (hk : 1 ≤ k) : acc l r0 k = acc l r0 (k - 1) * 64 + atB l k % 64 := by
  obtain ⟨m, rfl⟩ : ∃ m, k = m + 1 := ⟨k - 1, by omega⟩
  rfl

/-- How great it is by now. -/
def Small (A k : Nat) : Prop := (A < 32 ∧ k = 1) ∨ (A < 2048 ∧ k = 2) ∨ (A < 131072 ∧ k = 3) ∨ (A < 8388608 ∧ k = 4)

theorem ne_of_size {s : ByteArray} (h : bl s ≠ []) : 0 < s.size := by rw [bl_size]; exact List.length_pos_iff.2 h

set_option maxHeartbeats 2000000 in
set_option maxRecDepth 100000 in
theorem decode_2 (s : ByteArray) (w : World) (h0 : bl s ≠ []) (hm : s.size ≤ maxLen) (c3 : 192 ≤ atB (bl s) 0) (c4 : atB (bl s) 0 < 224) :
    Calls Tryz.prog 62 #[.string s] w fun e w' => e = .returned (dv (dr (bl s)) (dw (bl s)) (okB (bl s))) ∧ w = w' := by
    have hp := ne_of_size h0
    have hc0 := at_get s 0 hp
    have hlt := atB_lt (bl s) 0
    have hsz := bl_size s
    unfold maxLen at hm
    have H0 := Go.Lib.hid h0; clear h0
    have hlead := Go.Lib.hid (d_lead (bl s) H0.out 2 128 (atB (bl s) 0 - 192) (by unfold Lead; omega))
    have g2 : (192 : Int) ≤ (atB (bl s) 0 : Int) := by omega
    have g3 : (atB (bl s) 0 : Int) < 224 := by omega
    rcases Nat.lt_or_ge s.size 2 with hn | hn
    · go_enter Tryz.func62, Tryz.ntmps62
      go_wp2_with fail
      go_ret3
      exact ⟨ret_dv (hlead.out.2 fun g => by have := g.1; omega), rfl⟩
    · obtain ⟨r0, hr0⟩ : ∃ r0, r0 = atB (bl s) 0 - 192 := ⟨_, rfl⟩
      have hr1 : (atB (bl s) 0 : Int) - 192 = (r0 : Int) := by omega
      rw [← hr0] at hlead
      have hr2 : r0 < 32 := by omega
      clear hr0 hlt c3 c4
      go_enter Tryz.func62, Tryz.ntmps62
      go_wp2_with fail
      clear hr1 g2 g3
      go_loop [8, 9] (fun r i => ∃ k A : Nat, 1 ≤ k ∧ k ≤ 2 ∧ i = .int .i64 (k : Int) ∧ r = .int .i32 (A : Int) ∧ Hid (A = acc (bl s) r0 (k - 1) ∧ Small A k ∧ Conts (bl s) k)) (fun _ i => 2 - (intOf i).toNat)
      case atStart => exact ⟨1, r0, by omega, by omega, rfl, rfl, rfl, by unfold Small; omega, fun j h1 h2 => by omega⟩
      case round =>
        obtain ⟨k, A, hk1, hk2, rfl, rfl, hA⟩ := hrel
        by_cases hkn : k < 2
        · have hks : k < s.size := by omega
          have hck := at_get s k hks
          have hclt := atB_lt (bl s) k
          have hAs : A < 131072 := by
            have := hA.out.2.1
            unfold Small at this
            omega
          by_cases hco : 128 ≤ atB (bl s) k ∧ atB (bl s) k ≤ 191
          · have k1 : (128 : Int) ≤ (atB (bl s) k : Int) := by omega
            have k2 : (atB (bl s) k : Int) ≤ 191 := by omega
            have hnext : Hid ((A * 64 + atB (bl s) k - 128 : Nat) = acc (bl s) r0 (k + 1 - 1) ∧ Small (A * 64 + atB (bl s) k - 128) (k + 1) ∧ Conts (bl s) (k + 1)) := by
              obtain ⟨a1, a2, a3⟩ := hA.out
              refine ⟨?_, ?_, conts_more a3 hco⟩
              · rw [Nat.add_sub_cancel, acc_more _ _ _ hk1, ← a1]; omega
              · unfold Small at a2 ⊢; omega
            obtain ⟨A', hA'⟩ : ∃ A', A' = A * 64 + atB (bl s) k - 128 := ⟨_, rfl⟩
            rw [← hA'] at hnext
            have hA1 : (A : Int) * 64 + (atB (bl s) k : Int) - 128 = (A' : Int) := by omega
            clear hA hA' hco
            go_wp2
            go_round
            case rel => exact ⟨k + 1, A', by omega, by omega, by go_num, (by first | rfl | rw [hA1]), hnext⟩
            case measure => simp [intOf]; omega
          · have hbad : Hid (¬ Good (bl s) 2 128 r0) := fun g => hco (g.2.1 k hk1 hkn)
            clear hA
            by_cases k1 : atB (bl s) k < 128
            · have k2 : (atB (bl s) k : Int) < 128 := by omega
              go_wp2
              go_ret3
              exact ⟨ret_dv (hlead.out.2 hbad), rfl⟩
            · have k2 : (191 : Int) < (atB (bl s) k : Int) := by omega
              have k3 : (128 : Int) ≤ (atB (bl s) k : Int) := by omega
              go_wp2
              go_ret3
              exact ⟨ret_dv (hlead.out.2 hbad), rfl⟩
        · obtain rfl : k = 2 := by omega
          have hgood : Hid (Good (bl s) 2 128 r0 ↔ (128 ≤ A ∧ A ≤ 1114111 ∧ ¬ (55296 ≤ A ∧ A < 57344))) := by
            obtain ⟨a1, a2, a3⟩ := hA.out
            unfold Good Hid
            rw [← a1]
            exact ⟨fun g => g.2.2, fun g => ⟨by omega, a3, g⟩⟩
          have hA2 : Hid (A = acc (bl s) r0 (2 - 1)) := hA.out.1
          clear hA
          by_cases e1 : A < 128
          · have hd := Go.Lib.hid (hlead.out.2 fun g => by have := (hgood.out).1 g; omega)
            clear hgood
            go_wp2
            go_ret3
            exact ⟨ret_dv hd.out, rfl⟩
          by_cases e2 : 1114111 < A
          · have hd := Go.Lib.hid (hlead.out.2 fun g => by have := (hgood.out).1 g; omega)
            clear hgood
            go_wp2
            go_ret3
            exact ⟨ret_dv hd.out, rfl⟩
          by_cases e3 : 55296 ≤ A
          · by_cases e4 : A < 57344
            · have hd := Go.Lib.hid (hlead.out.2 fun g => by have := (hgood.out).1 g; omega)
              clear hgood
              go_wp2 <;> (go_ret3; exact ⟨ret_dv hd.out, rfl⟩)
            · have hd := Go.Lib.hid (hlead.out.1 ((hgood.out).2 (by omega)))
              clear hgood
              go_wp2 <;> (go_ret3; exact ⟨ret_dv (by rw [hA2.out]; exact hd.out), rfl⟩)
          · have hd := Go.Lib.hid (hlead.out.1 ((hgood.out).2 (by omega)))
            clear hgood
            go_wp2 <;> (go_ret3; exact ⟨ret_dv (by rw [hA2.out]; exact hd.out), rfl⟩)

set_option maxHeartbeats 2000000 in
set_option maxRecDepth 100000 in
theorem decode_3 (s : ByteArray) (w : World) (h0 : bl s ≠ []) (hm : s.size ≤ maxLen) (c3 : 224 ≤ atB (bl s) 0) (c4 : atB (bl s) 0 < 240) :
    Calls Tryz.prog 62 #[.string s] w fun e w' => e = .returned (dv (dr (bl s)) (dw (bl s)) (okB (bl s))) ∧ w = w' := by
    have hp := ne_of_size h0
    have hc0 := at_get s 0 hp
    have hlt := atB_lt (bl s) 0
    have hsz := bl_size s
    unfold maxLen at hm
    have H0 := Go.Lib.hid h0; clear h0
    have hlead := Go.Lib.hid (d_lead (bl s) H0.out 3 2048 (atB (bl s) 0 - 224) (by unfold Lead; omega))
    have g2 : (224 : Int) ≤ (atB (bl s) 0 : Int) := by omega
    have g3 : (atB (bl s) 0 : Int) < 240 := by omega
    rcases Nat.lt_or_ge s.size 3 with hn | hn
    · go_enter Tryz.func62, Tryz.ntmps62
      go_wp2_with fail
      go_ret3
      exact ⟨ret_dv (hlead.out.2 fun g => by have := g.1; omega), rfl⟩
    · obtain ⟨r0, hr0⟩ : ∃ r0, r0 = atB (bl s) 0 - 224 := ⟨_, rfl⟩
      have hr1 : (atB (bl s) 0 : Int) - 224 = (r0 : Int) := by omega
      rw [← hr0] at hlead
      have hr2 : r0 < 32 := by omega
      clear hr0 hlt c3 c4
      go_enter Tryz.func62, Tryz.ntmps62
      go_wp2_with fail
      clear hr1 g2 g3
      go_loop [8, 9] (fun r i => ∃ k A : Nat, 1 ≤ k ∧ k ≤ 3 ∧ i = .int .i64 (k : Int) ∧ r = .int .i32 (A : Int) ∧ Hid (A = acc (bl s) r0 (k - 1) ∧ Small A k ∧ Conts (bl s) k)) (fun _ i => 3 - (intOf i).toNat)
      case atStart => exact ⟨1, r0, by omega, by omega, rfl, rfl, rfl, by unfold Small; omega, fun j h1 h2 => by omega⟩
      case round =>
        obtain ⟨k, A, hk1, hk2, rfl, rfl, hA⟩ := hrel
        by_cases hkn : k < 3
        · have hks : k < s.size := by omega
          have hck := at_get s k hks
          have hclt := atB_lt (bl s) k
          have hAs : A < 131072 := by
            have := hA.out.2.1
            unfold Small at this
            omega
          by_cases hco : 128 ≤ atB (bl s) k ∧ atB (bl s) k ≤ 191
          · have k1 : (128 : Int) ≤ (atB (bl s) k : Int) := by omega
            have k2 : (atB (bl s) k : Int) ≤ 191 := by omega
            have hnext : Hid ((A * 64 + atB (bl s) k - 128 : Nat) = acc (bl s) r0 (k + 1 - 1) ∧ Small (A * 64 + atB (bl s) k - 128) (k + 1) ∧ Conts (bl s) (k + 1)) := by
              obtain ⟨a1, a2, a3⟩ := hA.out
              refine ⟨?_, ?_, conts_more a3 hco⟩
              · rw [Nat.add_sub_cancel, acc_more _ _ _ hk1, ← a1]; omega
              · unfold Small at a2 ⊢; omega
            obtain ⟨A', hA'⟩ : ∃ A', A' = A * 64 + atB (bl s) k - 128 := ⟨_, rfl⟩
            rw [← hA'] at hnext
            have hA1 : (A : Int) * 64 + (atB (bl s) k : Int) - 128 = (A' : Int) := by omega
            clear hA hA' hco
            go_wp2
            go_round
            case rel => exact ⟨k + 1, A', by omega, by omega, by go_num, (by first | rfl | rw [hA1]), hnext⟩
            case measure => simp [intOf]; omega
          · have hbad : Hid (¬ Good (bl s) 3 2048 r0) := fun g => hco (g.2.1 k hk1 hkn)
            clear hA
            by_cases k1 : atB (bl s) k < 128
            · have k2 : (atB (bl s) k : Int) < 128 := by omega
              go_wp2
              go_ret3
              exact ⟨ret_dv (hlead.out.2 hbad), rfl⟩
            · have k2 : (191 : Int) < (atB (bl s) k : Int) := by omega
              have k3 : (128 : Int) ≤ (atB (bl s) k : Int) := by omega
              go_wp2
              go_ret3
              exact ⟨ret_dv (hlead.out.2 hbad), rfl⟩
        · obtain rfl : k = 3 := by omega
          have hgood : Hid (Good (bl s) 3 2048 r0 ↔ (2048 ≤ A ∧ A ≤ 1114111 ∧ ¬ (55296 ≤ A ∧ A < 57344))) := by
            obtain ⟨a1, a2, a3⟩ := hA.out
            unfold Good Hid
            rw [← a1]
            exact ⟨fun g => g.2.2, fun g => ⟨by omega, a3, g⟩⟩
          have hA2 : Hid (A = acc (bl s) r0 (3 - 1)) := hA.out.1
          clear hA
          by_cases e1 : A < 2048
          · have hd := Go.Lib.hid (hlead.out.2 fun g => by have := (hgood.out).1 g; omega)
            clear hgood
            go_wp2
            go_ret3
            exact ⟨ret_dv hd.out, rfl⟩
          by_cases e2 : 1114111 < A
          · have hd := Go.Lib.hid (hlead.out.2 fun g => by have := (hgood.out).1 g; omega)
            clear hgood
            go_wp2
            go_ret3
            exact ⟨ret_dv hd.out, rfl⟩
          by_cases e3 : 55296 ≤ A
          · by_cases e4 : A < 57344
            · have hd := Go.Lib.hid (hlead.out.2 fun g => by have := (hgood.out).1 g; omega)
              clear hgood
              go_wp2 <;> (go_ret3; exact ⟨ret_dv hd.out, rfl⟩)
            · have hd := Go.Lib.hid (hlead.out.1 ((hgood.out).2 (by omega)))
              clear hgood
              go_wp2 <;> (go_ret3; exact ⟨ret_dv (by rw [hA2.out]; exact hd.out), rfl⟩)
          · have hd := Go.Lib.hid (hlead.out.1 ((hgood.out).2 (by omega)))
            clear hgood
            go_wp2 <;> (go_ret3; exact ⟨ret_dv (by rw [hA2.out]; exact hd.out), rfl⟩)

set_option maxHeartbeats 2000000 in
set_option maxRecDepth 100000 in
theorem decode_4 (s : ByteArray) (w : World) (h0 : bl s ≠ []) (hm : s.size ≤ maxLen) (c3 : 240 ≤ atB (bl s) 0) (c4 : atB (bl s) 0 < 248) :
    Calls Tryz.prog 62 #[.string s] w fun e w' => e = .returned (dv (dr (bl s)) (dw (bl s)) (okB (bl s))) ∧ w = w' := by
    have hp := ne_of_size h0
    have hc0 := at_get s 0 hp
    have hlt := atB_lt (bl s) 0
    have hsz := bl_size s
    unfold maxLen at hm
    have H0 := Go.Lib.hid h0; clear h0
    have hlead := Go.Lib.hid (d_lead (bl s) H0.out 4 65536 (atB (bl s) 0 - 240) (by unfold Lead; omega))
    have g2 : (240 : Int) ≤ (atB (bl s) 0 : Int) := by omega
    have g3 : (atB (bl s) 0 : Int) < 248 := by omega
    rcases Nat.lt_or_ge s.size 4 with hn | hn
    · go_enter Tryz.func62, Tryz.ntmps62
      go_wp2_with fail
      go_ret3
      exact ⟨ret_dv (hlead.out.2 fun g => by have := g.1; omega), rfl⟩
    · obtain ⟨r0, hr0⟩ : ∃ r0, r0 = atB (bl s) 0 - 240 := ⟨_, rfl⟩
      have hr1 : (atB (bl s) 0 : Int) - 240 = (r0 : Int) := by omega
      rw [← hr0] at hlead
      have hr2 : r0 < 32 := by omega
      clear hr0 hlt c3 c4
      go_enter Tryz.func62, Tryz.ntmps62
      go_wp2_with fail
      clear hr1 g2 g3
      go_loop [8, 9] (fun r i => ∃ k A : Nat, 1 ≤ k ∧ k ≤ 4 ∧ i = .int .i64 (k : Int) ∧ r = .int .i32 (A : Int) ∧ Hid (A = acc (bl s) r0 (k - 1) ∧ Small A k ∧ Conts (bl s) k)) (fun _ i => 4 - (intOf i).toNat)
      case atStart => exact ⟨1, r0, by omega, by omega, rfl, rfl, rfl, by unfold Small; omega, fun j h1 h2 => by omega⟩
      case round =>
        obtain ⟨k, A, hk1, hk2, rfl, rfl, hA⟩ := hrel
        by_cases hkn : k < 4
        · have hks : k < s.size := by omega
          have hck := at_get s k hks
          have hclt := atB_lt (bl s) k
          have hAs : A < 131072 := by
            have := hA.out.2.1
            unfold Small at this
            omega
          by_cases hco : 128 ≤ atB (bl s) k ∧ atB (bl s) k ≤ 191
          · have k1 : (128 : Int) ≤ (atB (bl s) k : Int) := by omega
            have k2 : (atB (bl s) k : Int) ≤ 191 := by omega
            have hnext : Hid ((A * 64 + atB (bl s) k - 128 : Nat) = acc (bl s) r0 (k + 1 - 1) ∧ Small (A * 64 + atB (bl s) k - 128) (k + 1) ∧ Conts (bl s) (k + 1)) := by
              obtain ⟨a1, a2, a3⟩ := hA.out
              refine ⟨?_, ?_, conts_more a3 hco⟩
              · rw [Nat.add_sub_cancel, acc_more _ _ _ hk1, ← a1]; omega
              · unfold Small at a2 ⊢; omega
            obtain ⟨A', hA'⟩ : ∃ A', A' = A * 64 + atB (bl s) k - 128 := ⟨_, rfl⟩
            rw [← hA'] at hnext
            have hA1 : (A : Int) * 64 + (atB (bl s) k : Int) - 128 = (A' : Int) := by omega
            clear hA hA' hco
            go_wp2
            go_round
            case rel => exact ⟨k + 1, A', by omega, by omega, by go_num, (by first | rfl | rw [hA1]), hnext⟩
            case measure => simp [intOf]; omega
          · have hbad : Hid (¬ Good (bl s) 4 65536 r0) := fun g => hco (g.2.1 k hk1 hkn)
            clear hA
            by_cases k1 : atB (bl s) k < 128
            · have k2 : (atB (bl s) k : Int) < 128 := by omega
              go_wp2
              go_ret3
              exact ⟨ret_dv (hlead.out.2 hbad), rfl⟩
            · have k2 : (191 : Int) < (atB (bl s) k : Int) := by omega
              have k3 : (128 : Int) ≤ (atB (bl s) k : Int) := by omega
              go_wp2
              go_ret3
              exact ⟨ret_dv (hlead.out.2 hbad), rfl⟩
        · obtain rfl : k = 4 := by omega
          have hgood : Hid (Good (bl s) 4 65536 r0 ↔ (65536 ≤ A ∧ A ≤ 1114111 ∧ ¬ (55296 ≤ A ∧ A < 57344))) := by
            obtain ⟨a1, a2, a3⟩ := hA.out
            unfold Good Hid
            rw [← a1]
            exact ⟨fun g => g.2.2, fun g => ⟨by omega, a3, g⟩⟩
          have hA2 : Hid (A = acc (bl s) r0 (4 - 1)) := hA.out.1
          clear hA
          by_cases e1 : A < 65536
          · have hd := Go.Lib.hid (hlead.out.2 fun g => by have := (hgood.out).1 g; omega)
            clear hgood
            go_wp2
            go_ret3
            exact ⟨ret_dv hd.out, rfl⟩
          by_cases e2 : 1114111 < A
          · have hd := Go.Lib.hid (hlead.out.2 fun g => by have := (hgood.out).1 g; omega)
            clear hgood
            go_wp2
            go_ret3
            exact ⟨ret_dv hd.out, rfl⟩
          by_cases e3 : 55296 ≤ A
          · by_cases e4 : A < 57344
            · have hd := Go.Lib.hid (hlead.out.2 fun g => by have := (hgood.out).1 g; omega)
              clear hgood
              go_wp2 <;> (go_ret3; exact ⟨ret_dv hd.out, rfl⟩)
            · have hd := Go.Lib.hid (hlead.out.1 ((hgood.out).2 (by omega)))
              clear hgood
              go_wp2 <;> (go_ret3; exact ⟨ret_dv (by rw [hA2.out]; exact hd.out), rfl⟩)
          · have hd := Go.Lib.hid (hlead.out.1 ((hgood.out).2 (by omega)))
            clear hgood
            go_wp2 <;> (go_ret3; exact ⟨ret_dv (by rw [hA2.out]; exact hd.out), rfl⟩)

set_option maxRecDepth 100000 in
theorem decode_c (s : ByteArray) (w : World) (h0 : bl s ≠ []) (hm : s.size ≤ maxLen) :
    Calls Tryz.prog 62 #[.string s] w fun e w' => e = .returned (dv (dr (bl s)) (dw (bl s)) (okB (bl s))) ∧ w = w' := by
  have hp := ne_of_size h0
  have hc0 := at_get s 0 hp
  have hlt := atB_lt (bl s) 0
  have hsz := bl_size s
  unfold maxLen at hm
  have H0 := Go.Lib.hid h0; clear h0
  rcases Nat.lt_or_ge (atB (bl s) 0) 128 with c1 | c1
  · have hd := Go.Lib.hid (d_ascii (bl s) H0.out c1)
    have hc1 : (atB (bl s) 0 : Int) < 128 := by omega
    go_enter Tryz.func62, Tryz.ntmps62
    go_wp2_with fail
    go_ret3
    exact ⟨ret_dv hd.out, rfl⟩
  by_cases c2 : atB (bl s) 0 < 192 ∨ 248 ≤ atB (bl s) 0
  · have hd := Go.Lib.hid (d_none (bl s) H0.out c1 c2)
    have g1 : (128 : Int) ≤ (atB (bl s) 0 : Int) := by omega
    rcases c2 with c2 | c2
    · have g2 : (atB (bl s) 0 : Int) < 192 := by omega
      go_enter Tryz.func62, Tryz.ntmps62
      go_wp2_with fail
      go_ret3
      exact ⟨ret_dv hd.out, rfl⟩
    · have g2 : (248 : Int) ≤ (atB (bl s) 0 : Int) := by omega
      go_enter Tryz.func62, Tryz.ntmps62
      go_wp2_with fail
      go_ret3
      exact ⟨ret_dv hd.out, rfl⟩
  rcases Nat.lt_or_ge (atB (bl s) 0) 224 with c3 | c3
  · exact decode_2 s w H0.out hm (by omega) c3
  rcases Nat.lt_or_ge (atB (bl s) 0) 240 with c4 | c4
  · exact decode_3 s w H0.out hm c3 c4
  · exact decode_4 s w H0.out hm c4 (by omega)

end Go.Proofs.YtkddleonmkhaiaaGreat

namespace Go.Proofs.YtkddleonmkhaiaaGreat
open Go.RowKit

set_option maxRecDepth 100000 in
theorem rvalid_c (s : ByteArray) (w : World) (hm : s.size ≤ 1000000000) :
    Calls Tryz.prog 43 #[.string s] w fun e w' => e = .returned (.bool (wellB (toks (bl s)))) ∧ w = w' := by
  have hl1 := toks_length (bl s)
  rw [← bl_size] at hl1
  obtain ⟨T, hT⟩ : ∃ T, T = (toks (bl s)).length := ⟨_, rfl⟩
  rw [← hT] at hl1
  have HT := Go.Lib.hid hT; clear hT
  go_enter Tryz.func43, Tryz.ntmps43
  go_wp2
  go_loop [3] (fun u => ∃ (n p : Nat), n ≤ T ∧ u = .int .i64 (p : Int) ∧ p ≤ s.size ∧ Hid (p = posOf (bl s) n) ∧ Hid (wellB ((toks (bl s)).take n) = true)) (fun u => s.size - (intOf u).toNat)
  case atStart => exact ⟨0, 0, by omega, rfl, by omega, rfl, rfl⟩
  case round =>
    obtain ⟨n, p, hn, rfl, hps, hp, hwell⟩ := hrel
    by_cases hlt : n < T
    · have hT' : n < (toks (bl s)).length := by rw [← HT.out]; exact hlt
      have hne := drop_ne (bl s) n hT'
      rw [← hp.out] at hne
      have hplt : p < s.size := by
        rw [bl_size]
        exact Nat.lt_of_not_le fun hh => hne (List.drop_eq_nil_of_le hh)
      have hsz : (s.extract p s.size).size ≤ maxLen := by rw [ByteArray.size_extract]; unfold maxLen; omega
      have C := fun W => decode_c (s.extract p s.size) W (by rw [drop_bl]; exact hne) hsz
      rw [drop_bl] at C
      have hsucc := posOf_succ (bl s) n hT'
      have hwt := well_take (bl s) n hT'
      have hwf := well_false (bl s) n hT'
      have hple := posOf_le (bl s) (n + 1)
      rw [← bl_size] at hple
      rw [hwell.out, Bool.true_and] at hwt
      rw [← hp.out] at hsucc hwt hwf
      have hdw := (dw_le _ hne).1
      rw [hsucc] at hple
      clear hsz hne hwell
      unfold dv at C
      generalize (bl s).drop p = L at *
      have Hwt := Go.Lib.hid hwt; clear hwt
      have Hwf := Go.Lib.hid hwf; clear hwf
      have Hsucc := Go.Lib.hid hsucc; clear hsucc
      have HC := Go.Lib.hid C; clear C
      generalize dr L = r at HC
      generalize dw L = d at *
      cases ho : okB L with
      | true =>
        rw [ho] at HC
        go_wp2_with (refine (HC.out _).mono ?_; rintro e w1 ⟨rfl, rfl⟩)
        go_round
        case rel => exact ⟨n + 1, p + d, by omega, by go_num, by omega, Hsucc.out.symm, Hwt.out.trans ho⟩
        case measure => simp [intOf]; omega
      | false =>
        rw [ho] at HC
        go_wp2_with (refine (HC.out _).mono ?_; rintro e w1 ⟨rfl, rfl⟩)
        go_ret
        exact ⟨ret_of (congrArg Value.bool (Hwf.out ho).symm), rfl⟩
    · have hpe : p = s.size := by
        rw [hp.out, posOf_all (bl s) n (by rw [← HT.out]; omega), bl_size]
      have hall : Hid (wellB (toks (bl s)) = true) := by
        have := hwell.out
        rwa [List.take_of_length_le (by rw [← HT.out]; omega)] at this
      clear hp hwell
      subst hpe
      go_wp2
      go_ret
      exact ⟨ret_of (congrArg Value.bool hall.out.symm), rfl⟩

end Go.Proofs.YtkddleonmkhaiaaGreat
