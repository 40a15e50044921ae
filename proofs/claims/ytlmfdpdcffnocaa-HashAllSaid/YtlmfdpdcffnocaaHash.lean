/-
  The contracts of hash.Of, First, Tag, Other.
-/
import Derived.Test.YtlmfdpdcffnocaaHashR
import Derived.Test.YtlmfdpdcffnocaaLCut
import Derived.Test.YtlmfdpdcffnocaaOf
namespace Go.Proofs.Ytlmfdpdcffnocaa
open Go.RowKit

set_option maxHeartbeats 1000000 in
set_option maxRecDepth 100000 in
theorem hof_c (s : ByteArray) (w : World) (hm : s.size ≤ 1000000) :
    Calls Try.prog 11 #[.string s] w fun e w' => e = .returned (.int .u64 (hashN (runesOf (toks (bl s))) : Int)) ∧ Below w.heap.size w w' := by
  have C := of_c s w (by omega)
  have hlen : (runesOf (toks (bl s))).length ≤ 1000000 := by rw [runesOf_length]; have := toks_length (bl s); rw [← bl_size] at this; omega
  have hrl := rune_lt (bl s)
  generalize runesOf (toks (bl s)) = rs at *
  have C := Go.Lib.hid C
  have hlen := Go.Lib.hid hlen
  have hrl := Go.Lib.hid hrl
  have hf := Go.Lib.hid fold_nil
  go_enter Try.func11, Try.ntmps11
  go_wp2_with fail
  refine C.out.mono ?_
  rintro e w1 ⟨v1, rfl, h1, hb⟩
  obtain ⟨a, c, rfl, -⟩ := h1.rv.form
  have e0 : (zi .i32 rs).length = rs.length := zi_length ..
  rw [e0] at h1 ⊢
  have HR := Go.Lib.hid h1.rv
  clear h1 e0 C
  go_wp2_with fail
  go_loop [3, 9] (fun hv iv => ∃ k : Nat, k ≤ rs.length ∧ iv = .int .i64 (k : Int) ∧ hv = .int .u64 (foldH (rs.take k) : Int)) (fun _ iv => rs.length - (intOf iv).toNat)
  case atStart => exact ⟨0, by omega, rfl, by rw [hf.out]; rfl⟩
  case round =>
    obtain ⟨k, hk, rfl, rfl⟩ := hrel
    by_cases hlt : k < rs.length
    · obtain ⟨b, o, rfl, hc, -⟩ := HR.out.at k (by rw [zi_length]; exact hlt)
      rw [zi_at _ _ _ hlt] at hc
      have hs := foldH_snoc (rs.take k) rs[k]
      rw [← List.take_succ_eq_append_getElem hlt] at hs
      have Hs := Go.Lib.hid hs
      have Hlt := Go.Lib.hid (foldH_lt (rs.take k))
      clear hs
      generalize foldH (rs.take k) = h at *
      have Hr := Go.Lib.hid (hrl.out rs[k] (List.getElem_mem hlt))
      generalize rs[k] = r at *
      have hk6 : k ≤ 1000000 := by have := hlen.out; omega
      have Hst := Go.Lib.hid (mix_step h r Hlt.out Hr.out)
      go_wp2_with fail
      go_round
      case rel => exact ⟨k + 1, by omega, by go_num, by rw [Hst.out, Hs.out]⟩
      case measure => simp only [intOf]; omega
    · obtain rfl : k = rs.length := by omega
      rw [List.take_length]
      have Ha := Go.Lib.hid (turn_a (foldH rs) (foldH_lt rs))
      have Hb := Go.Lib.hid (turn_b (foldH rs))
      have Hc := Go.Lib.hid (turn_c (foldH rs))
      have Hh := Go.Lib.hid (show hashN rs = turnC (foldH rs) from rfl)
      generalize foldH rs = h at *
      go_wp2_with fail
      go_ret
      refine ⟨ret_int (a := bits .xor .u64 (IntKind.u64.wrap (bits .xor .u64 (h : Int) ((h : Int) / 4294967296) * 11400714819323198485)) (IntKind.u64.wrap (bits .xor .u64 (h : Int) ((h : Int) / 4294967296) * 11400714819323198485) / 536870912)) ?_, hb⟩
      rw [Ha.out, Hb.out, Hc.out, Hh.out]

set_option maxRecDepth 100000 in
theorem hfirst_c (h : Nat) (w : World) (hh : h < 18446744073709551616) : Calls Try.prog 13 #[.int .u64 (h : Int)] w fun e w' => e = .returned (.int .i64 (firstN h : Int)) ∧ w = w' := by
  have e1 : (firstN h : Int) = (h : Int) % 8 := by unfold firstN; omega
  rw [e1]
  have hh' := Go.Lib.hid hh
  clear hh e1
  go_enter Try.func13, Try.ntmps13
  go_wp2_with fail
  go_ret
  exact ⟨rfl, rfl⟩
set_option maxRecDepth 100000 in
theorem htag_c (h : Nat) (w : World) (hh : h < 18446744073709551616) : Calls Try.prog 15 #[.int .u64 (h : Int)] w fun e w' => e = .returned (.int .i64 (tagN h : Int)) ∧ w = w' := by
  have e1 : (tagN h : Int) = (h : Int) / 256 % 32768 := by unfold tagN; omega
  rw [e1]
  have hh' := Go.Lib.hid hh
  clear hh e1
  go_enter Try.func15, Try.ntmps15
  go_wp2_with fail
  go_ret
  exact ⟨rfl, rfl⟩
set_option maxRecDepth 100000 in
theorem hother_c (b t : Int) (w : World) (b0 : -9223372036854775808 ≤ b) (b1 : b ≤ 9223372036854775807) (t0 : -9223372036854775808 ≤ t) (t1 : t ≤ 9223372036854775807) : Calls Try.prog 17 #[.int .i64 b, .int .i64 t] w fun e w' => e = .returned (.int .i64 (otherI b t)) ∧ w = w' := by
  by_cases h1 : b < 0
  · have E := Go.Lib.hid (otherI_bad (b := b) (t := t) (.inl h1))
    go_enter Try.func17, Try.ntmps17
    go_wp2_with fail
    go_ret
    exact ⟨by rw [E.out]; rfl, rfl⟩
  by_cases h2 : 8 ≤ b
  · have E := Go.Lib.hid (otherI_bad (b := b) (t := t) (.inr (.inl (by omega))))
    go_enter Try.func17, Try.ntmps17
    go_wp2_with fail
    go_ret
    exact ⟨by rw [E.out]; rfl, rfl⟩
  by_cases h3 : t < 0
  · have E := Go.Lib.hid (otherI_bad (b := b) (t := t) (.inr (.inr (.inl h3))))
    go_enter Try.func17, Try.ntmps17
    go_wp2_with fail
    go_ret
    exact ⟨by rw [E.out]; rfl, rfl⟩
  by_cases h4 : 32768 ≤ t
  · have E := Go.Lib.hid (otherI_bad (b := b) (t := t) (.inr (.inr (.inr (by omega)))))
    go_enter Try.func17, Try.ntmps17
    go_wp2_with fail
    go_ret
    exact ⟨by rw [E.out]; rfl, rfl⟩
  obtain ⟨B, rfl⟩ : ∃ B : Nat, b = (B : Int) := ⟨b.toNat, by omega⟩
  obtain ⟨T, rfl⟩ : ∃ T : Nat, t = (T : Int) := ⟨t.toNat, by omega⟩
  have E := Go.Lib.hid (otherI_ok (b := B) (t := T) (by omega) (by omega))
  have X := i64_xor_small B (1 + T % 7) (by omega) (by omega)
  rw [show ((1 + T % 7 : Nat) : Int) = 1 + (T : Int) % 7 from by omega] at X
  have X := Go.Lib.hid X
  go_enter Try.func17, Try.ntmps17
  go_wp2_with fail
  go_ret
  exact ⟨by rw [E.out]; rfl, rfl⟩

/-- A text's hash. -/
def hashS (s : ByteArray) : Nat := hashN (runesOf (toks (bl s)))
theorem hashS_lt (s : ByteArray) : hashS s < 18446744073709551616 := by have := hashN_lt (runesOf (toks (bl s))); rw [two64_lit] at this; exact this
theorem hof_k (s : ByteArray) (n : Nat) (h : hashS s = n) (w : World) (hm : s.size ≤ 1000000) : Calls Try.prog 11 #[.string s] w fun e w' => e = .returned (.int .u64 (n : Int)) ∧ Below w.heap.size w w' := by subst h; exact hof_c s w hm
theorem rhash_k (s : ByteArray) (n : Nat) (h : hashS s = n) (w : World) (hm : s.size ≤ 1000000) : Calls Try.prog 12 #[.string s] w fun e w' => e = .returned (.int .u64 (n : Int)) ∧ Below w.heap.size w w' := by subst h; exact rhash_c s w hm

end Go.Proofs.Ytlmfdpdcffnocaa
