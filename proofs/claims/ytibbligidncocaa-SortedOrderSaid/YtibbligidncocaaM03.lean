/-
  The contract of the reference's Decode.
  Slices of values of one cell each: what one reads as, what the call itself owns, and laws over them. Plain facts, of no one program.
  A range over a text: its iterator, and what it hands over.
-/
import Derived.Test.YtibbligidncocaaM02
import Derived.Test.YtibbligidncocaaM01
import Derived.LoopTactic
import Derived.Lib.OthersKept
namespace Go.Proofs.Ytibbligidncocaa
open Go.RowKit

theorem at_get (s : ByteArray) (j : Nat) (h : j < s.size) : (s[j]'h).toNat = atB (bl s) j := by
  have h' : j < (bl s).length := by rw [← bl_size]; exact h
  unfold atB
  rw [List.getD_eq_getElem?_getD, List.getElem?_eq_getElem h', Option.getD_some]
  rfl

theorem ret_dv {r r' n n' : Nat} {ok ok' : Bool} (h : r' = r ∧ n' = n ∧ ok' = ok) : Ending.returned (.tuple #[.int .i32 (r : Int), .int .i64 (n : Int), .bool ok]) = .returned (dv r' n' ok') := by
  obtain ⟨rfl, rfl, rfl⟩ := h
  rfl

theorem conts_more {l : List UInt8} {k : Nat} (h : Conts l k) (hk : 128 ≤ atB l k ∧ atB l k ≤ 191) : Conts l (k + 1) := by
  intro j h1 h2
  rcases Nat.lt_or_ge j k with h3 | h3
  · exact h j h1 h3
  · obtain rfl : j = k := by omega
    exact hk

theorem acc_more (l : List UInt8) (r0 k : Nat) (hk : 1 ≤ k) : acc l r0 k = acc l r0 (k - 1) * 64 + atB l k % 64 := by
  obtain ⟨m, rfl⟩ : ∃ m, k = m + 1 := ⟨k - 1, by omega⟩
  rfl

/-- How great it is by now. -/
def Small (A k : Nat) : Prop := (A < 32 ∧ k = 1) ∨ (A < 2048 ∧ k = 2) ∨ (A < 131072 ∧ k = 3) ∨ (A < 8388608 ∧ k = 4)

theorem ne_of_size {s : ByteArray} (h : bl s ≠ []) : 0 < s.size := by rw [bl_size]; exact List.length_pos_iff.2 h

set_option maxHeartbeats 2000000 in
set_option maxRecDepth 100000 in
theorem decode_2 (s : ByteArray) (w : World) (h0 : bl s ≠ []) (hm : s.size ≤ maxLen) (c3 : 192 ≤ atB (bl s) 0) (c4 : atB (bl s) 0 < 224) :
    Calls Try.prog 70 #[.string s] w fun e w' => e = .returned (dv (dr (bl s)) (dw (bl s)) (okB (bl s))) ∧ w = w' := by
    have hp := ne_of_size h0
    have hc0 := at_get s 0 hp
    have hlt := atB_lt (bl s) 0
    have hsz := bl_size s
    unfold maxLen at hm
    have H0 := Go.Lib.hid h0; clear h0
    have hlead := Go.Lib.hid (d_lead (bl s) H0.out 2 128 (atB (bl s) 0 - 192) (by unfold Lead; omega))
    have g2 : (192 : Int) ≤ (atB (bl s) 0 : Int) := by omega
    have g3 : (atB (bl s) 0 : Int) < 224 := by omega
    rcases Nat.lt_or_ge s.size 2 with hn | hn
    · go_enter Try.func70, Try.ntmps70
      go_wp2_with fail
      go_ret3
      exact ⟨ret_dv (hlead.out.2 fun g => by have := g.1; omega), rfl⟩
    · obtain ⟨r0, hr0⟩ : ∃ r0, r0 = atB (bl s) 0 - 192 := ⟨_, rfl⟩
      have hr1 : (atB (bl s) 0 : Int) - 192 = (r0 : Int) := by omega
      rw [← hr0] at hlead
      have hr2 : r0 < 32 := by omega
      clear hr0 hlt c3 c4
      go_enter Try.func70, Try.ntmps70
      go_wp2_with fail
      clear hr1 g2 g3
      go_loop [8, 9] (fun r i => ∃ k A : Nat, 1 ≤ k ∧ k ≤ 2 ∧ i = .int .i64 (k : Int) ∧ r = .int .i32 (A : Int) ∧ Hid (A = acc (bl s) r0 (k - 1) ∧ Small A k ∧ Conts (bl s) k)) (fun _ i => 2 - (intOf i).toNat)
      case atStart => exact ⟨1, r0, by omega, by omega, rfl, rfl, rfl, by unfold Small; omega, fun j h1 h2 => by omega⟩
      case round =>
        obtain ⟨k, A, hk1, hk2, rfl, rfl, hA⟩ := hrel
        by_cases hkn : k < 2
        · have hks : k < s.size := by omega
          have hck := at_get s k hks
          have hclt := atB_lt (bl s) k
          have hAs : A < 131072 := by
            have := hA.out.2.1
            unfold Small at this
            omega
          by_cases hco : 128 ≤ atB (bl s) k ∧ atB (bl s) k ≤ 191
          · have k1 : (128 : Int) ≤ (atB (bl s) k : Int) := by omega
            have k2 : (atB (bl s) k : Int) ≤ 191 := by omega
            have hnext : Hid ((A * 64 + atB (bl s) k - 128 : Nat) = acc (bl s) r0 (k + 1 - 1) ∧ Small (A * 64 + atB (bl s) k - 128) (k + 1) ∧ Conts (bl s) (k + 1)) := by
              obtain ⟨a1, a2, a3⟩ := hA.out
              refine ⟨?_, ?_, conts_more a3 hco⟩
              · rw [Nat.add_sub_cancel, acc_more _ _ _ hk1, ← a1]; omega
              · unfold Small at a2 ⊢; omega
            obtain ⟨A', hA'⟩ : ∃ A', A' = A * 64 + atB (bl s) k - 128 := ⟨_, rfl⟩
            rw [← hA'] at hnext
            have hA1 : (A : Int) * 64 + (atB (bl s) k : Int) - 128 = (A' : Int) := by omega
            clear hA hA' hco
            go_wp2
            go_round
            case rel => exact ⟨k + 1, A', by omega, by omega, by go_num, (by first | rfl | rw [hA1]), hnext⟩
            case measure => simp [intOf]; omega
          · have hbad : Hid (¬ Good (bl s) 2 128 r0) := fun g => hco (g.2.1 k hk1 hkn)
            clear hA
            by_cases k1 : atB (bl s) k < 128
            · have k2 : (atB (bl s) k : Int) < 128 := by omega
              go_wp2
              go_ret3
              exact ⟨ret_dv (hlead.out.2 hbad), rfl⟩
            · have k2 : (191 : Int) < (atB (bl s) k : Int) := by omega
              have k3 : (128 : Int) ≤ (atB (bl s) k : Int) := by omega
              go_wp2
              go_ret3
              exact ⟨ret_dv (hlead.out.2 hbad), rfl⟩
        · obtain rfl : k = 2 := by omega
          have hgood : Hid (Good (bl s) 2 128 r0 ↔ (128 ≤ A ∧ A ≤ 1114111 ∧ ¬ (55296 ≤ A ∧ A < 57344))) := by
            obtain ⟨a1, a2, a3⟩ := hA.out
            unfold Good Hid
            rw [← a1]
            exact ⟨fun g => g.2.2, fun g => ⟨by omega, a3, g⟩⟩
          have hA2 : Hid (A = acc (bl s) r0 (2 - 1)) := hA.out.1
          clear hA
          by_cases e1 : A < 128
          · have hd := Go.Lib.hid (hlead.out.2 fun g => by have := (hgood.out).1 g; omega)
            clear hgood
            go_wp2
            go_ret3
            exact ⟨ret_dv hd.out, rfl⟩
          by_cases e2 : 1114111 < A
          · have hd := Go.Lib.hid (hlead.out.2 fun g => by have := (hgood.out).1 g; omega)
            clear hgood
            go_wp2
            go_ret3
            exact ⟨ret_dv hd.out, rfl⟩
          by_cases e3 : 55296 ≤ A
          · by_cases e4 : A < 57344
            · have hd := Go.Lib.hid (hlead.out.2 fun g => by have := (hgood.out).1 g; omega)
              clear hgood
              go_wp2 <;> (go_ret3; exact ⟨ret_dv hd.out, rfl⟩)
            · have hd := Go.Lib.hid (hlead.out.1 ((hgood.out).2 (by omega)))
              clear hgood
              go_wp2 <;> (go_ret3; exact ⟨ret_dv (by rw [hA2.out]; exact hd.out), rfl⟩)
          · have hd := Go.Lib.hid (hlead.out.1 ((hgood.out).2 (by omega)))
            clear hgood
            go_wp2 <;> (go_ret3; exact ⟨ret_dv (by rw [hA2.out]; exact hd.out), rfl⟩)

set_option maxHeartbeats 2000000 in
set_option maxRecDepth 100000 in
theorem decode_3 (s : ByteArray) (w : World) (h0 : bl s ≠ []) (hm : s.size ≤ maxLen) (c3 : 224 ≤ atB (bl s) 0) (c4 : atB (bl s) 0 < 240) :
    Calls Try.prog 70 #[.string s] w fun e w' => e = .returned (dv (dr (bl s)) (dw (bl s)) (okB (bl s))) ∧ w = w' := by
    have hp := ne_of_size h0
    have hc0 := at_get s 0 hp
    have hlt := atB_lt (bl s) 0
    have hsz := bl_size s
    unfold maxLen at hm
    have H0 := Go.Lib.hid h0; clear h0
    have hlead := Go.Lib.hid (d_lead (bl s) H0.out 3 2048 (atB (bl s) 0 - 224) (by unfold Lead; omega))
    have g2 : (224 : Int) ≤ (atB (bl s) 0 : Int) := by omega
    have g3 : (atB (bl s) 0 : Int) < 240 := by omega
    rcases Nat.lt_or_ge s.size 3 with hn | hn
    · go_enter Try.func70, Try.ntmps70
      go_wp2_with fail
      go_ret3
      exact ⟨ret_dv (hlead.out.2 fun g => by have := g.1; omega), rfl⟩
    · obtain ⟨r0, hr0⟩ : ∃ r0, r0 = atB (bl s) 0 - 224 := ⟨_, rfl⟩
      have hr1 : (atB (bl s) 0 : Int) - 224 = (r0 : Int) := by omega
      rw [← hr0] at hlead
      have hr2 : r0 < 32 := by omega
      clear hr0 hlt c3 c4
      go_enter Try.func70, Try.ntmps70
      go_wp2_with fail
      clear hr1 g2 g3
      go_loop [8, 9] (fun r i => ∃ k A : Nat, 1 ≤ k ∧ k ≤ 3 ∧ i = .int .i64 (k : Int) ∧ r = .int .i32 (A : Int) ∧ Hid (A = acc (bl s) r0 (k - 1) ∧ Small A k ∧ Conts (bl s) k)) (fun _ i => 3 - (intOf i).toNat)
      case atStart => exact ⟨1, r0, by omega, by omega, rfl, rfl, rfl, by unfold Small; omega, fun j h1 h2 => by omega⟩
      case round =>
        obtain ⟨k, A, hk1, hk2, rfl, rfl, hA⟩ := hrel
        by_cases hkn : k < 3
        · have hks : k < s.size := by omega
          have hck := at_get s k hks
          have hclt := atB_lt (bl s) k
          have hAs : A < 131072 := by
            have := hA.out.2.1
            unfold Small at this
            omega
          by_cases hco : 128 ≤ atB (bl s) k ∧ atB (bl s) k ≤ 191
          · have k1 : (128 : Int) ≤ (atB (bl s) k : Int) := by omega
            have k2 : (atB (bl s) k : Int) ≤ 191 := by omega
            have hnext : Hid ((A * 64 + atB (bl s) k - 128 : Nat) = acc (bl s) r0 (k + 1 - 1) ∧ Small (A * 64 + atB (bl s) k - 128) (k + 1) ∧ Conts (bl s) (k + 1)) := by
              obtain ⟨a1, a2, a3⟩ := hA.out
              refine ⟨?_, ?_, conts_more a3 hco⟩
              · rw [Nat.add_sub_cancel, acc_more _ _ _ hk1, ← a1]; omega
              · unfold Small at a2 ⊢; omega
            obtain ⟨A', hA'⟩ : ∃ A', A' = A * 64 + atB (bl s) k - 128 := ⟨_, rfl⟩
            rw [← hA'] at hnext
            have hA1 : (A : Int) * 64 + (atB (bl s) k : Int) - 128 = (A' : Int) := by omega
            clear hA hA' hco
            go_wp2
            go_round
            case rel => exact ⟨k + 1, A', by omega, by omega, by go_num, (by first | rfl | rw [hA1]), hnext⟩
            case measure => simp [intOf]; omega
          · have hbad : Hid (¬ Good (bl s) 3 2048 r0) := fun g => hco (g.2.1 k hk1 hkn)
            clear hA
            by_cases k1 : atB (bl s) k < 128
            · have k2 : (atB (bl s) k : Int) < 128 := by omega
              go_wp2
              go_ret3
              exact ⟨ret_dv (hlead.out.2 hbad), rfl⟩
            · have k2 : (191 : Int) < (atB (bl s) k : Int) := by omega
              have k3 : (128 : Int) ≤ (atB (bl s) k : Int) := by omega
              go_wp2
              go_ret3
              exact ⟨ret_dv (hlead.out.2 hbad), rfl⟩
        · obtain rfl : k = 3 := by omega
          have hgood : Hid (Good (bl s) 3 2048 r0 ↔ (2048 ≤ A ∧ A ≤ 1114111 ∧ ¬ (55296 ≤ A ∧ A < 57344))) := by
            obtain ⟨a1, a2, a3⟩ := hA.out
            unfold Good Hid
            rw [← a1]
            exact ⟨fun g => g.2.2, fun g => ⟨by omega, a3, g⟩⟩
          have hA2 : Hid (A = acc (bl s) r0 (3 - 1)) := hA.out.1
          clear hA
          by_cases e1 : A < 2048
          · have hd := Go.Lib.hid (hlead.out.2 fun g => by have := (hgood.out).1 g; omega)
            clear hgood
            go_wp2
            go_ret3
            exact ⟨ret_dv hd.out, rfl⟩
          by_cases e2 : 1114111 < A
          · have hd := Go.Lib.hid (hlead.out.2 fun g => by have := (hgood.out).1 g; omega)
            clear hgood
            go_wp2
            go_ret3
            exact ⟨ret_dv hd.out, rfl⟩
          by_cases e3 : 55296 ≤ A
          · by_cases e4 : A < 57344
            · have hd := Go.Lib.hid (hlead.out.2 fun g => by have := (hgood.out).1 g; omega)
              clear hgood
              go_wp2 <;> (go_ret3; exact ⟨ret_dv hd.out, rfl⟩)
            · have hd := Go.Lib.hid (hlead.out.1 ((hgood.out).2 (by omega)))
              clear hgood
              go_wp2 <;> (go_ret3; exact ⟨ret_dv (by rw [hA2.out]; exact hd.out), rfl⟩)
          · have hd := Go.Lib.hid (hlead.out.1 ((hgood.out).2 (by omega)))
            clear hgood
            go_wp2 <;> (go_ret3; exact ⟨ret_dv (by rw [hA2.out]; exact hd.out), rfl⟩)

set_option maxHeartbeats 2000000 in
set_option maxRecDepth 100000 in
theorem decode_4 (s : ByteArray) (w : World) (h0 : bl s ≠ []) (hm : s.size ≤ maxLen) (c3 : 240 ≤ atB (bl s) 0) (c4 : atB (bl s) 0 < 248) :
    Calls Try.prog 70 #[.string s] w fun e w' => e = .returned (dv (dr (bl s)) (dw (bl s)) (okB (bl s))) ∧ w = w' := by
    have hp := ne_of_size h0
    have hc0 := at_get s 0 hp
    have hlt := atB_lt (bl s) 0
    have hsz := bl_size s
    unfold maxLen at hm
    have H0 := Go.Lib.hid h0; clear h0
    have hlead := Go.Lib.hid (d_lead (bl s) H0.out 4 65536 (atB (bl s) 0 - 240) (by unfold Lead; omega))
    have g2 : (240 : Int) ≤ (atB (bl s) 0 : Int) := by omega
    have g3 : (atB (bl s) 0 : Int) < 248 := by omega
    rcases Nat.lt_or_ge s.size 4 with hn | hn
    · go_enter Try.func70, Try.ntmps70
      go_wp2_with fail
      go_ret3
      exact ⟨ret_dv (hlead.out.2 fun g => by have := g.1; omega), rfl⟩
    · obtain ⟨r0, hr0⟩ : ∃ r0, r0 = atB (bl s) 0 - 240 := ⟨_, rfl⟩
      have hr1 : (atB (bl s) 0 : Int) - 240 = (r0 : Int) := by omega
      rw [← hr0] at hlead
      have hr2 : r0 < 32 := by omega
      clear hr0 hlt c3 c4
      go_enter Try.func70, Try.ntmps70
      go_wp2_with fail
      clear hr1 g2 g3
      go_loop [8, 9] (fun r i => ∃ k A : Nat, 1 ≤ k ∧ k ≤ 4 ∧ i = .int .i64 (k : Int) ∧ r = .int .i32 (A : Int) ∧ Hid (A = acc (bl s) r0 (k - 1) ∧ Small A k ∧ Conts (bl s) k)) (fun _ i => 4 - (intOf i).toNat)
      case atStart => exact ⟨1, r0, by omega, by omega, rfl, rfl, rfl, by unfold Small; omega, fun j h1 h2 => by omega⟩
      case round =>
        obtain ⟨k, A, hk1, hk2, rfl, rfl, hA⟩ := hrel
        by_cases hkn : k < 4
        · have hks : k < s.size := by omega
          have hck := at_get s k hks
          have hclt := atB_lt (bl s) k
          have hAs : A < 131072 := by
            have := hA.out.2.1
            unfold Small at this
            omega
          by_cases hco : 128 ≤ atB (bl s) k ∧ atB (bl s) k ≤ 191
          · have k1 : (128 : Int) ≤ (atB (bl s) k : Int) := by omega
            have k2 : (atB (bl s) k : Int) ≤ 191 := by omega
            have hnext : Hid ((A * 64 + atB (bl s) k - 128 : Nat) = acc (bl s) r0 (k + 1 - 1) ∧ Small (A * 64 + atB (bl s) k - 128) (k + 1) ∧ Conts (bl s) (k + 1)) := by
              obtain ⟨a1, a2, a3⟩ := hA.out
              refine ⟨?_, ?_, conts_more a3 hco⟩
              · rw [Nat.add_sub_cancel, acc_more _ _ _ hk1, ← a1]; omega
              · unfold Small at a2 ⊢; omega
            obtain ⟨A', hA'⟩ : ∃ A', A' = A * 64 + atB (bl s) k - 128 := ⟨_, rfl⟩
            rw [← hA'] at hnext
            have hA1 : (A : Int) * 64 + (atB (bl s) k : Int) - 128 = (A' : Int) := by omega
            clear hA hA' hco
            go_wp2
            go_round
            case rel => exact ⟨k + 1, A', by omega, by omega, by go_num, (by first | rfl | rw [hA1]), hnext⟩
            case measure => simp [intOf]; omega
          · have hbad : Hid (¬ Good (bl s) 4 65536 r0) := fun g => hco (g.2.1 k hk1 hkn)
            clear hA
            by_cases k1 : atB (bl s) k < 128
            · have k2 : (atB (bl s) k : Int) < 128 := by omega
              go_wp2
              go_ret3
              exact ⟨ret_dv (hlead.out.2 hbad), rfl⟩
            · have k2 : (191 : Int) < (atB (bl s) k : Int) := by omega
              have k3 : (128 : Int) ≤ (atB (bl s) k : Int) := by omega
              go_wp2
              go_ret3
              exact ⟨ret_dv (hlead.out.2 hbad), rfl⟩
        · obtain rfl : k = 4 := by omega
          have hgood : Hid (Good (bl s) 4 65536 r0 ↔ (65536 ≤ A ∧ A ≤ 1114111 ∧ ¬ (55296 ≤ A ∧ A < 57344))) := by
            obtain ⟨a1, a2, a3⟩ := hA.out
            unfold Good Hid
            rw [← a1]
            exact ⟨fun g => g.2.2, fun g => ⟨by omega, a3, g⟩⟩
          have hA2 : Hid (A = acc (bl s) r0 (4 - 1)) := hA.out.1
          clear hA
          by_cases e1 : A < 65536
          · have hd := Go.Lib.hid (hlead.out.2 fun g => by have := (hgood.out).1 g; omega)
            clear hgood
            go_wp2
            go_ret3
            exact ⟨ret_dv hd.out, rfl⟩
          by_cases e2 : 1114111 < A
          · have hd := Go.Lib.hid (hlead.out.2 fun g => by have := (hgood.out).1 g; omega)
            clear hgood
            go_wp2
            go_ret3
            exact ⟨ret_dv hd.out, rfl⟩
          by_cases e3 : 55296 ≤ A
          · by_cases e4 : A < 57344
            · have hd := Go.Lib.hid (hlead.out.2 fun g => by have := (hgood.out).1 g; omega)
              clear hgood
              go_wp2 <;> (go_ret3; exact ⟨ret_dv hd.out, rfl⟩)
            · have hd := Go.Lib.hid (hlead.out.1 ((hgood.out).2 (by omega)))
              clear hgood
              go_wp2 <;> (go_ret3; exact ⟨ret_dv (by rw [hA2.out]; exact hd.out), rfl⟩)
          · have hd := Go.Lib.hid (hlead.out.1 ((hgood.out).2 (by omega)))
            clear hgood
            go_wp2 <;> (go_ret3; exact ⟨ret_dv (by rw [hA2.out]; exact hd.out), rfl⟩)

set_option maxRecDepth 100000 in
theorem decode_c (s : ByteArray) (w : World) (h0 : bl s ≠ []) (hm : s.size ≤ maxLen) :
    Calls Try.prog 70 #[.string s] w fun e w' => e = .returned (dv (dr (bl s)) (dw (bl s)) (okB (bl s))) ∧ w = w' := by
  have hp := ne_of_size h0
  have hc0 := at_get s 0 hp
  have hlt := atB_lt (bl s) 0
  have hsz := bl_size s
  unfold maxLen at hm
  have H0 := Go.Lib.hid h0; clear h0
  rcases Nat.lt_or_ge (atB (bl s) 0) 128 with c1 | c1
  · have hd := Go.Lib.hid (d_ascii (bl s) H0.out c1)
    have hc1 : (atB (bl s) 0 : Int) < 128 := by omega
    go_enter Try.func70, Try.ntmps70
    go_wp2_with fail
    go_ret3
    exact ⟨ret_dv hd.out, rfl⟩
  by_cases c2 : atB (bl s) 0 < 192 ∨ 248 ≤ atB (bl s) 0
  · have hd := Go.Lib.hid (d_none (bl s) H0.out c1 c2)
    have g1 : (128 : Int) ≤ (atB (bl s) 0 : Int) := by omega
    rcases c2 with c2 | c2
    · have g2 : (atB (bl s) 0 : Int) < 192 := by omega
      go_enter Try.func70, Try.ntmps70
      go_wp2_with fail
      go_ret3
      exact ⟨ret_dv hd.out, rfl⟩
    · have g2 : (248 : Int) ≤ (atB (bl s) 0 : Int) := by omega
      go_enter Try.func70, Try.ntmps70
      go_wp2_with fail
      go_ret3
      exact ⟨ret_dv hd.out, rfl⟩
  rcases Nat.lt_or_ge (atB (bl s) 0) 224 with c3 | c3
  · exact decode_2 s w H0.out hm (by omega) c3
  rcases Nat.lt_or_ge (atB (bl s) 0) 240 with c4 | c4
  · exact decode_3 s w H0.out hm c3 c4
  · exact decode_4 s w H0.out hm c4 (by omega)

end Go.Proofs.Ytibbligidncocaa

namespace Go.Proofs.Ytibbligidncocaa
open Go.RowKit

/-- Whole numbers as values. -/
def zi (k : IntKind) (l : List Nat) : List Value := l.map fun (n : Nat) => Value.int k (n : Int)
theorem zi_length (k : IntKind) (l : List Nat) : (zi k l).length = l.length := by simp [zi]
theorem zi_append (k : IntKind) (l m : List Nat) : zi k (l ++ m) = zi k l ++ zi k m := by simp [zi]
theorem zi_one (k : IntKind) (l : List Nat) : ∀ u ∈ zi k l, u.oneCell' = true := by
  intro u hu
  obtain ⟨n, -, rfl⟩ := List.mem_map.1 hu
  rfl
theorem zi_at (k : IntKind) (l : List Nat) (i : Nat) (h : i < l.length) : (zi k l)[i]'(by rw [zi_length]; exact h) = .int k (l[i] : Int) := by simp [zi]

/-- v, a slice of values of one cell, reads as xs. -/
def RV (w : World) (v : Value) (xs : List Value) : Prop :=
  ∃ a cap, v = .slice a xs.length cap ∧ xs.length ≤ cap ∧ cap ≤ maxLen ∧ (a = none → cap = 0) ∧
    (xs ≠ [] → ∃ b o, a = some ⟨b, o, none⟩ ∧ ∀ i (h : i < xs.length), w.cell? ⟨b, o + i, none⟩ = some xs[i])

/-- v, a slice that was made from block B on, holds xs; e: the elements' type. -/
def OwnV (e : TypeId) (w : World) (B : Nat) (v : Value) (xs : List Value) : Prop := w.ownsRow B e 1 v xs.length xs

theorem RV.block {w : World} {xs : List Value} {b o : Nat} (h : ∀ i (h : i < xs.length), w.cell? ⟨b, o + i, none⟩ = some xs[i]) (hl : xs ≠ []) : b < w.heap.size :=
  World.block_lt_of_cell? w _ (h 0 (List.length_pos_iff.2 hl))

theorem RV.below {w w' : World} {v : Value} {xs : List Value} (h : RV w v xs) (hb : Below w.heap.size w w') : RV w' v xs := by
  obtain ⟨a, cap, hv, h1, h2, h3, h4⟩ := h
  refine ⟨a, cap, hv, h1, h2, h3, fun hl => ?_⟩
  obtain ⟨b, o, ha, hc⟩ := h4 hl
  have hlt := RV.block hc hl
  exact ⟨b, o, ha, fun i hi => (hb.cell (by exact hlt)).trans (hc i hi)⟩

theorem RV.at {w : World} {a : Option Addr} {len cap : Nat} {xs : List Value} (h : RV w (.slice a len cap) xs) (k : Nat) (hk : k < xs.length) : ∃ b o, a = some ⟨b, o, none⟩ ∧ w.cell? ⟨b, o + k, none⟩ = some xs[k] ∧ b < w.heap.size := by
  obtain ⟨a', cap', hv, h1, h2, h3, h4⟩ := h
  cases hv
  have hne : xs ≠ [] := by intro e; subst e; simp at hk
  obtain ⟨b, o, rfl, hc⟩ := h4 hne
  exact ⟨b, o, rfl, hc k hk, RV.block hc hne⟩

theorem RV.form {w : World} {v : Value} {xs : List Value} (h : RV w v xs) : ∃ a cap, v = .slice a xs.length cap ∧ xs.length ≤ 9223372036854775807 := by
  obtain ⟨a, cap, hv, h1, h2, -⟩ := h
  exact ⟨a, cap, hv, by unfold maxLen at h2; omega⟩

theorem OwnV.nil (e : TypeId) (w : World) (B : Nat) : OwnV e w B (.slice none 0 0) [] := World.ownsRow_nil w B e 1

theorem OwnV.rv {e : TypeId} {w : World} {B : Nat} {v : Value} {xs : List Value} (h : OwnV e w B v xs) : RV w v xs := by
  have hc0 := fun (g : Nat) (hg : v.ownBlock = some g) (i : Nat) (hi : i < xs.length) => World.ownsRow.cells h (g := g) hg i _ (List.getElem?_eq_getElem hi)
  rcases h.2 with ⟨rfl, hn⟩ | ⟨g, cap, cur, rfl, hb, hg, h1, h2, h3, h4⟩
  · obtain rfl : xs = [] := List.eq_nil_of_length_eq_zero hn
    exact ⟨none, 0, rfl, Nat.le_refl _, by simp [maxLen], fun _ => rfl, fun h => absurd rfl h⟩
  · refine ⟨some ⟨g, 0, none⟩, cap, rfl, h1, h2, (fun h => by cases h), fun hl => ⟨g, 0, rfl, fun i hi => ?_⟩⟩
    have := hc0 g rfl i hi
    have hadd : (⟨g, 0, none⟩ : Addr).add i = ⟨g, 0 + i, none⟩ := by unfold Addr.add; split <;> simp_all
    rw [hadd] at this
    exact this

theorem OwnV.below {e : TypeId} {w w' : World} {B : Nat} {v : Value} {xs : List Value} (h : OwnV e w B v xs) (hb : Below w.heap.size w w') : OwnV e w' B v xs := by
  refine ⟨h.1, ?_⟩
  rcases h.2 with h' | ⟨g, cap, cur, h1, hB, h2, h3⟩
  · exact .inl h'
  · exact .inr ⟨g, cap, cur, h1, hB, (hb.block g (Array.getElem?_eq_some_iff.1 h2).1).trans h2, h3⟩

theorem OwnV.mono {e : TypeId} {w : World} {B B' : Nat} {v : Value} {xs : List Value} (h : OwnV e w B v xs) (hB : B' ≤ B) : OwnV e w B' v xs := by
  refine ⟨h.1, ?_⟩
  rcases h.2 with h' | ⟨g, cap, cur, h1, hb, h2⟩
  · exact .inl h'
  · exact .inr ⟨g, cap, cur, h1, Nat.le_trans hB hb, h2⟩

theorem OwnV.alloc {e : TypeId} {w : World} {B : Nat} {v : Value} {xs : List Value} (h : OwnV e w B v xs) (o : Obj) : OwnV e (w.alloc o) B v xs := World.ownsRow.alloc h o

theorem OwnV.kept {e : TypeId} {w w' : World} {B : Nat} {v : Value} {xs : List Value} {row : Option Nat} (h : OwnV e w B v xs) (hg : w.grownBy w' row) (hne : v.ownBlock = none ∨ v.ownBlock ≠ row) : OwnV e w' B v xs :=
  World.ownsRow.kept h hg hne

theorem OwnV.row {e : TypeId} {w : World} {B : Nat} {v : Value} {xs : List Value} (h : OwnV e w B v xs) : ∀ k, v.ownBlock = some k → B ≤ k := fun k hk => (World.ownsRow.lt h k hk).1

/-- A change of one block that is not its own. -/
theorem OwnV.other {e : TypeId} {w w' : World} {B : Nat} {v : Value} {xs : List Value} (h : OwnV e w B v xs) (k : Nat) (o : Obj) (hk : w.heap[k]? = some o) (hno : ∀ c t f, o ≠ .cells c t f) (hw : ∀ j, j ≠ k → w'.heap[j]? = w.heap[j]?) : OwnV e w' B v xs := by
  refine ⟨h.1, ?_⟩
  rcases h.2 with h' | ⟨g, cap, cur, h1, hB, h2, h3⟩
  · exact .inl h'
  · refine .inr ⟨g, cap, cur, h1, hB, (hw g ?_).trans h2, h3⟩
    intro e'
    subst e'
    rw [h2] at hk
    exact hno _ _ _ (Option.some.inj hk).symm

/-- One value in a new block of its own. -/
theorem RV.one (w : World) (e : TypeId) (x : Value) : RV (w.alloc (.cells #[x] e)) (.slice (some ⟨w.heap.size, 0, none⟩) 1 1) [x] := by
  refine ⟨some ⟨w.heap.size, 0, none⟩, 1, rfl, Nat.le_refl _, by simp [maxLen], (fun h => by cases h), fun _ => ⟨w.heap.size, 0, rfl, fun i hi => ?_⟩⟩
  obtain rfl : i = 0 := by simpa using hi
  rw [cell_of_row _ w.heap.size 0 #[x] e (0, 0) (heap_alloc_new w _)]
  simp

section
variable {P : Program}

/-- 'append(s, x...)', s the call's own, x whatever reads as m. -/
theorem wpList_append_RV {ops : Array Oper} {rest : List Oper} {o : Oper} {a : Act} {w : World} {Q : Exit → Act → World → Prop} (hgd : o.guard = none) (s x : Operand) (t : TypeId)
    (ho : o.op = .call { callee := .builtin .append, args := #[s, x], argTypes := #[t, t] })
    (B : Nat) (e : TypeId) (ht : P.underlying t = some (.slice e)) (z : Value) (bytes : Nat) (hz1 : z.cells.size = 1) (hinfo : (P.info? e).map (fun i => (i.zero, i.size, i.bytes)) = some (some z, 1, bytes))
    (v xv : Value) (l m : List Value) (hs : a.eval s = v) (hx : a.eval x = xv) (hown : OwnV e w B v l) (hrb : RV w xv m) (hm1 : ∀ u ∈ m, u.oneCell' = true)
    (hlen : (l.length + m.length) * bytes ≤ 140737488355328) (hl63 : l.length + m.length ≤ 140737488355328) (hbase : B ≤ w.heap.size)
    (h : ∀ v' w', OwnV e w' B v' (l ++ m) → w.grownBy w' v.ownBlock → wpList P ops Q rest (a.put o.dst v') w') : wpList P ops Q (o :: rest) a w := by
  obtain ⟨i, hi, hz, hsize, hby⟩ := info_parts hinfo
  obtain ⟨ad, cap, rfl, h1, h2, h3, h4⟩ := hrb
  cases ad with
  | none =>
    obtain rfl := h3 rfl
    obtain rfl : m = [] := List.eq_nil_of_length_eq_zero (by omega)
    refine wpList_append_own_none hgd s x t ho B e i 1 ht hi v l.length l hs hown hx ?_
    exact h v w (by simpa using hown) (World.grownBy.refl _ _)
  | some ad =>
    refine wpList_append_own w hgd s x t ho B e i z 1 bytes ht hi hz hsize hby hz1 (by decide) v l.length l hs hown ad m.length cap m hx (by simp) ?_ hm1 (by unfold maxLen; omega) hlen hbase ?_
    · intro j u hj
      have hjm : j < m.length := by
        rcases Nat.lt_or_ge j m.length with hlt | hge
        · exact hlt
        · rw [List.getElem?_eq_none hge] at hj; cases hj
      obtain ⟨b, o', hao, hc⟩ := h4 (by intro hm; subst hm; simp at hjm)
      cases hao
      rw [List.getElem?_eq_getElem hjm] at hj
      cases hj
      have hadd : (⟨b, o', none⟩ : Addr).add j = ⟨b, o' + j, none⟩ := by unfold Addr.add; split <;> simp_all
      rw [hadd]
      exact hc j hjm
    · intro v' w' hown' hg _
      exact h v' w' (by unfold OwnV; rw [List.length_append]; exact hown') hg

/-- 'make([]T, 0, c)'. -/
theorem wpList_make_none {ops : Array Oper} {rest : List Oper} {o : Oper} {a : Act} {w : World} {Q : Exit → Act → World → Prop} (hgd : o.guard = none) (lo co : Operand) (t : TypeId)
    (hop : o.op = Op.makeSlice t lo co) (e : TypeId) (ht : P.underlying t = some (.slice e)) (z : Value) (bytes : Nat) (hinfo : (P.info? e).map (fun i => (i.zero, i.size, i.bytes)) = some (some z, 1, bytes))
    (kl kc : IntKind) (C : Int) (c : Nat) (hl : a.eval lo = .int kl 0) (hc : a.eval co = .int kc C) (hC : C = (c : Int)) (hcm : bytes * c ≤ 281474976710656) (hcm2 : c ≤ 281474976710656)
    (h : ∀ v w', OwnV e w' w.heap.size v [] → w.grownBy w' none → wpList P ops Q rest (a.put o.dst v) w') : wpList P ops Q (o :: rest) a w := by
  obtain ⟨i, hi, hz, hsize, hby⟩ := info_parts hinfo
  subst hC
  have hr := run_make (P := P) w t e i z ht hi hz kl kc 0 c (by omega) (by omega) (by rw [hby, ← Int.natCast_mul]; omega) (by omega)
  have h00 : Int.toNat 0 = 0 := rfl
  simp only [Int.toNat_natCast, hsize, Nat.mul_one, h00] at hr
  have hgo := h (.slice (some ⟨w.heap.size, 0, none⟩) 0 c) (w.alloc (.cells (madeCells z.cells c) e))
  refine wpList_gives hgd (.slice (some ⟨w.heap.size, 0, none⟩) 0 c) (w.alloc (.cells (madeCells z.cells c) e)) (by simp only [execOp, hop, hl, hc]; rw [Sem.run_bind, hr]; rfl) (hgo ?_ (World.grownBy_alloc w _ none))
  refine ⟨by simp, .inr ⟨w.heap.size, c, madeCells z.cells c, rfl, Nat.le_refl _, heap_alloc_new w _, by simp, by unfold maxLen; omega, by simp [size_madeCells], by simp⟩⟩
end

end Go.Proofs.Ytibbligidncocaa

namespace Go.Proofs.Ytibbligidncocaa
open Go.RowKit

/-- An iterator of its own, of which nothing lies below. -/
theorem below_iter {w wr : World} {k : Nat} (h : Below w.heap.size w wr) (hk : w.heap.size ≤ k) (s : ByteArray) (pos : Nat) : Below w.heap.size w (wr.iterAt k s pos) :=
  h.trans ⟨rfl, rfl, rfl, by simp [World.iterAt], fun j hj => Go.Lib.iterAt_other wr k j s pos (by omega)⟩

/-- What 'next' hands over at the n-th rune. -/
theorem next_some (s : ByteArray) (n : Nat) (h : n < (toks (bl s)).length) : posOf (bl s) n < s.size ∧ (Utf8.decode s (posOf (bl s) n)).1 = dr ((bl s).drop (posOf (bl s) n)) ∧ posOf (bl s) n + (Utf8.decode s (posOf (bl s) n)).2 = posOf (bl s) (n + 1) ∧ (toks (bl s))[n].1 = dr ((bl s).drop (posOf (bl s) n)) := by
  have hne := drop_ne (bl s) n h
  have hg := get_toks (bl s) n h
  have hs := posOf_succ (bl s) n h
  rw [dec_shift]
  refine ⟨?_, rfl, hs.symm, by rw [hg]⟩
  rw [bl_size]
  exact Nat.lt_of_not_le fun hh => hne (List.drop_eq_nil_of_le hh)

theorem posOf_lt {l : List UInt8} {n : Nat} : (n < (toks l).length) ↔ posOf l n < l.length := by
  constructor
  · intro h
    have := drop_ne l n h
    exact Nat.lt_of_not_le fun hh => this (List.drop_eq_nil_of_le hh)
  · intro h
    rcases Nat.lt_or_ge n (toks l).length with h' | h'
    · exact h'
    · rw [posOf_all l n h'] at h
      omega

/-- An iterator stands while another block grows. -/
theorem iter_kept {w w' : World} {k : Nat} {s : ByteArray} {pos : Nat} {v : Value} {xs : List Value} {e : TypeId} {B : Nat} (hit : w.heap[k]? = some (.stringIter s pos)) (hown : OwnV e w B v xs) (hg : w.grownBy w' v.ownBlock) : w'.heap[k]? = some (.stringIter s pos) := by
  have hlt := (Array.getElem?_eq_some_iff.1 hit).1
  refine (hg.block k hlt ?_).trans hit
  rcases hown.2 with ⟨rfl, -⟩ | ⟨g, cap, cur, rfl, hB, h2, h3⟩
  · simp [Value.ownBlock]
  · intro e'
    simp only [Value.ownBlock, Option.some.injEq] at e'
    subst e'
    rw [h2] at hit
    cases hit

theorem iter_alloc {w : World} {k : Nat} {s : ByteArray} {pos : Nat} (hit : w.heap[k]? = some (.stringIter s pos)) (o : Obj) : (w.alloc o).heap[k]? = some (.stringIter s pos) := by
  have hlt := (Array.getElem?_eq_some_iff.1 hit).1
  show (w.heap.push o)[k]? = _
  rw [Array.getElem?_push_lt hlt]
  rw [Array.getElem?_eq_getElem hlt] at hit
  exact hit

theorem posOf_lt_succ (l : List UInt8) (n : Nat) (h : n < (toks l).length) : posOf l n < posOf l (n + 1) := by
  have := dw_le _ (drop_ne l n h)
  rw [posOf_succ l n h]
  omega

theorem zi_more (k : IntKind) (ts : List (Nat × List UInt8)) (n : Nat) (h : n < ts.length) : zi k ((runesOf ts).take n) ++ [.int k (ts[n].1 : Int)] = zi k ((runesOf ts).take (n + 1)) := by
  have h' : n < (runesOf ts).length := by simp [runesOf]; exact h
  rw [List.take_succ_eq_append_getElem h', zi_append]
  simp [zi, runesOf]

theorem runesOf_length (ts : List (Nat × List UInt8)) : (runesOf ts).length = ts.length := by simp [runesOf]

theorem drop_bl (s : ByteArray) (p : Nat) : bl (s.extract p s.size) = (bl s).drop p := by
  unfold bl
  rw [Go.Lib.extract_data]
  exact List.take_of_length_le (by rw [List.length_drop, ← Go.Lib.size_eq]; omega)

theorem take_bl (s : ByteArray) (p : Nat) : s.extract 0 p = str ((bl s).take p) := by
  apply ByteArray.ext; apply Array.toList_inj.1
  rw [Go.Lib.extract_data]
  simp [str, bl]

theorem well_take (l : List UInt8) (n : Nat) (h : n < (toks l).length) : wellB ((toks l).take (n + 1)) = (wellB ((toks l).take n) && okB (l.drop (posOf l n))) := by
  rw [List.take_succ_eq_append_getElem h, get_toks l n h, ← ok_head (drop_ne l n h)]
  unfold wellB
  rw [List.all_append]
  simp only [List.all_cons, List.all_nil, Bool.and_true]

theorem well_false (l : List UInt8) (n : Nat) (h : n < (toks l).length) (ho : okB (l.drop (posOf l n)) = false) : wellB (toks l) = false := by
  cases hw : wellB (toks l) with
  | false => rfl
  | true =>
    have := well_take l n h
    rw [ho, Bool.and_false] at this
    have h2 : wellB ((toks l).take (n + 1)) = true := by
      unfold wellB at hw ⊢
      rw [List.all_eq_true] at hw ⊢
      exact fun t ht => hw t (List.mem_of_mem_take ht)
    rw [this] at h2
    cases h2

theorem one_one (k : IntKind) (n : Int) : ∀ u ∈ [Value.int k n], u.oneCell' = true := by
  intro u hu
  obtain rfl := List.mem_singleton.1 hu
  rfl

/-- Two slices of two types lie apart. -/
theorem own_apart {e1 e2 : TypeId} (he : e1 ≠ e2) {w : World} {B1 B2 : Nat} {v1 v2 : Value} {x1 x2 : List Value} (h1 : OwnV e1 w B1 v1 x1) (h2 : OwnV e2 w B2 v2 x2) : v2.ownBlock = none ∨ v2.ownBlock ≠ v1.ownBlock := by
  rcases h2.2 with ⟨rfl, -⟩ | ⟨g2, cap2, cur2, rfl, hB2, hg2, -⟩
  · exact .inl rfl
  · refine .inr ?_
    rcases h1.2 with ⟨rfl, -⟩ | ⟨g1, cap1, cur1, rfl, hB1, hg1, -⟩
    · simp [Value.ownBlock]
    · simp only [Value.ownBlock, ne_eq, Option.some.injEq]
      rintro rfl
      rw [hg1] at hg2
      simp only [Option.some.injEq, Obj.cells.injEq] at hg2
      exact he hg2.2.1

end Go.Proofs.Ytibbligidncocaa
