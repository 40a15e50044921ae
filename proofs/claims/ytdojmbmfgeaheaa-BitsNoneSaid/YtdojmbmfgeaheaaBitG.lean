/-
  The contracts of bits: Of.
-/
import Derived.Test.YtdojmbmfgeaheaaBitO
namespace Go.Proofs.Ytdojmbmfgeaheaa
open Go.RowKit

set_option maxRecDepth 100000 in
theorem bof_no1 (a : Option Addr) (len cap : Nat) (n : Int) (w : World) (h : n < 0) :
    Calls Try.prog 8 #[.slice a len cap, .int .i64 n] w fun e w' => e = .returned (.tuple #[.pointer none, .bool false]) ∧ w = w' := by
  go_enter Try.func8, Try.ntmps8
  go_wp2_with fail
  go_ret2
  exact ⟨rfl, rfl⟩
set_option maxRecDepth 100000 in
theorem bof_no2 (a : Option Addr) (len cap : Nat) (n : Nat) (w : World) (hn : n ≤ 9223372036854775807) (h : len ≠ (n + 7) / 8) :
    Calls Try.prog 8 #[.slice a len cap, .int .i64 (n : Int)] w fun e w' => e = .returned (.tuple #[.pointer none, .bool false]) ∧ w = w' := by
  have C := Go.Lib.hid fun W => bytesFor_c n W hn
  have hb : ((len : Int) != (((n + 7) / 8 : Nat) : Int)) = true := by simp; omega
  generalize (n + 7) / 8 = m at *
  go_enter Try.func8, Try.ntmps8
  go_wp2_with fail
  refine (C.out _).mono ?_
  rintro e w1 ⟨rfl, rfl⟩
  go_wp2_with fail
  go_ret2
  exact ⟨rfl, rfl⟩
set_option maxRecDepth 100000 in
theorem bof_no3 (a : Option Addr) (len cap : Nat) (n : Nat) (w : World) (p : List UInt8) (hr : RB w (.slice a len cap) p) (hn : n ≤ 9223372036854775807) (h : p.length = (n + 7) / 8) (hu : 0 < n % 8) (hp : p.length - 1 < p.length) (hz : p[p.length - 1].toNat * 2 ^ (n % 8) % 256 ≠ 0) :
    Calls Try.prog 8 #[.slice a len cap, .int .i64 (n : Int)] w fun e w' => e = .returned (.tuple #[.pointer none, .bool false]) ∧ w = w' := by
  have C0 := fun W => bytesFor_c n W hn
  rw [← h] at C0
  have C := Go.Lib.hid C0
  clear C0
  obtain ⟨rfl, hlc, hcm⟩ := hr.len
  obtain ⟨b, o, rfl, hc, hb⟩ := hr.at (p.length - 1) hp
  generalize p[p.length - 1].toNat = c at hc hz
  have hz' : ((c : Int) * 2 ^ (n % 8) % 256 != 0) = true := by
    have e : (c : Int) * 2 ^ (n % 8) = ((c * 2 ^ (n % 8) : Nat) : Int) := by simp
    rw [e]
    simp only [bne_iff_ne, ne_eq]
    omega
  have hm63 : p.length ≤ 9223372036854775807 := by unfold maxLen at hcm; omega
  clear hr h hlc hcm
  generalize p.length = len at *
  go_enter Try.func8, Try.ntmps8
  go_wp2_with fail
  refine (C.out _).mono ?_
  rintro e w1 ⟨rfl, rfl⟩
  go_wp2_with fail
  go_ret2
  exact ⟨rfl, rfl⟩

/-- A new *bits.Bits over a row that was made. -/
theorem BB.box {w0 w : World} {v : Value} {p : List UInt8} (h : Own 5 w w0.heap.size v p) (hb : Below w0.heap.size w0 w) (n : Nat) :
    BB (w.alloc (.cells #[v, .int .i64 (n : Int)] 35)) w0.heap.size w.heap.size v p n := ⟨heap_alloc_new w _, h.alloc _, hb.size⟩

set_option maxRecDepth 100000 in
theorem bof_yes (v : Value) (n : Nat) (w : World) (p : List UInt8) (hr : RB w v p) (hn : n ≤ 562949953421312) (h : okP p (n : Int)) :
    Calls Try.prog 8 #[v, .int .i64 (n : Int)] w fun e w' => ∃ b v', e = .returned (.tuple #[.pointer (some ⟨b, 0, none⟩), .bool true]) ∧ BT w' w.heap.size b v' ((unpack p).take n) ∧ Below w.heap.size w w' := by
  obtain ⟨hpk, hpl⟩ := okP_pack h
  obtain ⟨-, h1, h2⟩ := h
  rw [Int.toNat_natCast] at h1 h2
  have C0 := fun W => bytesFor_c n W (by omega)
  rw [← h1] at C0
  have C := Go.Lib.hid C0
  have C2 := Go.Lib.hid (bclone_c v p w hr (by omega))
  have Hpk := Go.Lib.hid hpk
  have Hpl := Go.Lib.hid hpl
  clear C0 hpk hpl
  obtain ⟨a, cap, rfl, hlc, hcm, hnone, -⟩ := id hr
  have hm63 : p.length ≤ 9223372036854775807 := by unfold maxLen at hcm; omega
  have fin : ∀ w1 v', Own 5 w1 w.heap.size v' p → Below w.heap.size w w1 → BT (w1.alloc (.cells #[v', .int .i64 (n : Int)] 35)) w.heap.size w1.heap.size v' ((unpack p).take n) ∧ Below w.heap.size w (w1.alloc (.cells #[v', .int .i64 (n : Int)] 35)) := by
    intro w1 v' ho hb
    refine ⟨?_, hb.alloc hb.size _⟩
    show BB _ _ _ _ _ _
    rw [Hpk.out, Hpl.out]
    exact BB.box ho hb n
  have Fin := Go.Lib.hid fin
  clear fin
  by_cases hu : 0 < n % 8
  · have hp : p.length - 1 < p.length := by omega
    have hz := (last_zero p n h1 hu hp).2 h2
    obtain ⟨b, o, rfl, hc, hb⟩ := hr.at (p.length - 1) hp
    generalize p[p.length - 1].toNat = c at hc hz
    have hz' : ((c : Int) * 2 ^ (n % 8) % 256 != 0) = false := by
      have e : (c : Int) * 2 ^ (n % 8) = ((c * 2 ^ (n % 8) : Nat) : Int) := by simp
      rw [e]
      simp only [bne_eq_false_iff_eq]
      omega
    clear hr h1 h2 hz hlc hcm hnone
    generalize p.length = len at *
    go_enter Try.func8, Try.ntmps8
    go_wp2_with fail
    refine (C.out _).mono ?_
    rintro e w1 ⟨rfl, rfl⟩
    go_wp2_with fail
    refine C2.out.mono ?_
    rintro e w1 ⟨v', rfl, ho, hb'⟩
    obtain ⟨a2, cap2, rfl, -⟩ := id ho.rb
    have F2 := Go.Lib.hid (Fin.out _ _ ho hb')
    clear Fin ho hb'
    go_wp2_with fail
    go_ret2
    exact ⟨_, _, rfl, F2.out⟩
  · clear hr h1 h2 hlc hcm hnone
    generalize p.length = len at *
    go_enter Try.func8, Try.ntmps8
    go_wp2_with fail
    refine (C.out _).mono ?_
    rintro e w1 ⟨rfl, rfl⟩
    go_wp2_with fail
    refine C2.out.mono ?_
    rintro e w1 ⟨v', rfl, ho, hb'⟩
    obtain ⟨a2, cap2, rfl, -⟩ := id ho.rb
    have F2 := Go.Lib.hid (Fin.out _ _ ho hb')
    clear Fin ho hb'
    go_wp2_with fail
    go_ret2
    exact ⟨_, _, rfl, F2.out⟩

/-- They would not. -/
theorem bof_no (v : Value) (n : Int) (w : World) (p : List UInt8) (hr : RB w v p) (hn : n ≤ 9223372036854775807) (h : ¬ okP p n) :
    Calls Try.prog 8 #[v, .int .i64 n] w fun e w' => e = .returned (.tuple #[.pointer none, .bool false]) ∧ w = w' := by
  obtain ⟨a, cap, rfl, hlc, hcm, -, -⟩ := id hr
  by_cases h0 : n < 0
  · exact bof_no1 _ _ _ _ _ h0
  obtain ⟨n, rfl⟩ : ∃ k : Nat, n = (k : Int) := ⟨n.toNat, by omega⟩
  by_cases h1 : p.length = (n + 7) / 8
  · have hu : 0 < n % 8 := by
      rcases Nat.eq_zero_or_pos (n % 8) with hu | hu
      · exact absurd ⟨by omega, by rw [Int.toNat_natCast]; exact h1, fun i h3 h4 => by rw [Int.toNat_natCast] at h3; omega⟩ h
      · exact hu
    have hp : p.length - 1 < p.length := by omega
    refine bof_no3 a _ cap n w p hr (by omega) h1 hu hp fun hz => h ⟨by omega, by rw [Int.toNat_natCast]; exact h1, ?_⟩
    rw [Int.toNat_natCast]
    exact (last_zero p n h1 hu hp).1 hz
  · exact bof_no2 a _ cap n w (by omega) h1

end Go.Proofs.Ytdojmbmfgeaheaa
