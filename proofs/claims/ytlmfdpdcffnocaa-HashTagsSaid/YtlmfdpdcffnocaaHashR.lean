/-
  The reference's Hash, First, Tag, Other.
-/
import Derived.Test.YtlmfdpdcffnocaaRRunes
import Derived.Laws.BitsAllLaws
namespace Go.Proofs.Ytlmfdpdcffnocaa
open Go.RowKit

def two64 : Nat := 18446744073709551616
def seedN : Nat := 14695981039346656037
def primeN : Nat := 1099511628211
def goldN : Nat := 11400714819323198485
theorem two64_eq : two64 = 2 ^ 64 := by unfold two64; omega
theorem seed_lt : seedN < two64 := by unfold seedN two64; omega
theorem seed_eq : (14695981039346656037 : Int) = (seedN : Int) := by unfold seedN; omega
theorem prime_eq : primeN = 1099511628211 := rfl
theorem gold_eq : goldN = 11400714819323198485 := rfl
theorem two64_lit : two64 = 18446744073709551616 := rfl
attribute [irreducible] seedN primeN goldN two64
/-- One rune more. -/
def mixR (h r : Nat) : Nat := (h ^^^ r) * primeN % two64
/-- The runes' hash before the last turn. -/
def foldH (rs : List Nat) : Nat := rs.foldl mixR seedN
def turnA (h : Nat) : Nat := h ^^^ (h / 4294967296)
def turnB (h : Nat) : Nat := turnA h * goldN % two64
def turnC (h : Nat) : Nat := turnB h ^^^ (turnB h / 536870912)
def hashN (rs : List Nat) : Nat := turnC (foldH rs)
def firstN (h : Nat) : Nat := h % 8
def tagN (h : Nat) : Nat := h / 256 % 32768
def otherI (b tag : Int) : Int := if b < 0 ∨ 7 < b ∨ tag < 0 ∨ 32767 < tag then -1 else ((b.toNat ^^^ (1 + tag.toNat % 7) : Nat) : Int)

theorem two64_pos : 0 < two64 := by rw [two64_eq]; exact Nat.pow_pos (by omega)
theorem mixR_lt (h r : Nat) : mixR h r < two64 := by unfold mixR; exact Nat.mod_lt _ two64_pos
theorem foldH_lt (rs : List Nat) : foldH rs < two64 := by
  unfold foldH
  have : ∀ (l : List Nat) (h : Nat), h < two64 → l.foldl mixR h < two64 := by
    intro l
    induction l with
    | nil => intro h hh; exact hh
    | cons r l ih => intro h _; exact ih _ (mixR_lt h r)
  exact this rs _ seed_lt
theorem foldH_snoc (rs : List Nat) (r : Nat) : foldH (rs ++ [r]) = mixR (foldH rs) r := by
  unfold foldH
  rw [List.foldl_append, List.foldl_cons, List.foldl_nil]
theorem xor_lt64 {a b : Nat} (ha : a < two64) (hb : b < two64) : a ^^^ b < two64 := by
  rw [two64_eq] at *
  exact Nat.xor_lt_two_pow ha hb
theorem turnA_lt {h : Nat} (hh : h < two64) : turnA h < two64 := by unfold turnA; exact xor_lt64 hh (Nat.lt_of_le_of_lt (Nat.div_le_self _ _) hh)
theorem turnB_lt (h : Nat) : turnB h < two64 := by unfold turnB; exact Nat.mod_lt _ two64_pos
theorem turnC_lt (h : Nat) : turnC h < two64 := by unfold turnC; exact xor_lt64 (turnB_lt h) (Nat.lt_of_le_of_lt (Nat.div_le_self _ _) (turnB_lt h))
theorem hashN_lt (rs : List Nat) : hashN rs < two64 := turnC_lt _

theorem fold_nil : (14695981039346656037 : Int) = (foldH [] : Int) := seed_eq

theorem mix_step (h r : Nat) (hh : h < two64) (hr : r < 1114112) : IntKind.u64.wrap (bits .xor .u64 (h : Int) (IntKind.u64.wrap (r : Int)) * 1099511628211) = (mixR h r : Int) := by
  rw [two64_lit] at hh
  have e1 : IntKind.u64.wrap (r : Int) = (r : Int) := by rw [IntKind.wrap_u64]; omega
  rw [e1, u64_xor_nat h r hh (by omega), IntKind.wrap_u64]
  unfold mixR
  rw [prime_eq, two64_lit]
  generalize h ^^^ r = q
  omega
theorem turn_a (h : Nat) (hh : h < two64) : bits .xor .u64 (h : Int) ((h : Int) / 4294967296) = (turnA h : Int) := by
  rw [two64_lit] at hh
  have e : (h : Int) / 4294967296 = ((h / 4294967296 : Nat) : Int) := by omega
  rw [e, u64_xor_nat h (h / 4294967296) hh (by omega)]
  rfl
theorem turn_b (h : Nat) : IntKind.u64.wrap ((turnA h : Int) * 11400714819323198485) = (turnB h : Int) := by
  rw [IntKind.wrap_u64]
  unfold turnB
  rw [gold_eq, two64_lit]
  generalize turnA h = q
  omega
theorem turn_c (h : Nat) : bits .xor .u64 (turnB h : Int) ((turnB h : Int) / 536870912) = (turnC h : Int) := by
  have hh := turnB_lt h
  unfold turnC
  generalize turnB h = q at *
  rw [two64_lit] at hh
  have e : (q : Int) / 536870912 = ((q / 536870912 : Nat) : Int) := by omega
  rw [e, u64_xor_nat q (q / 536870912) hh (by omega)]
theorem rune_lt (l : List UInt8) : ∀ r ∈ runesOf (toks l), r < 1114112 := by
  intro r hr
  obtain ⟨t, ht, rfl⟩ := List.mem_map.1 hr
  have := (valid_iff t.1).1 (toks_good l t ht).1
  omega

set_option maxHeartbeats 1000000 in
set_option maxRecDepth 100000 in
theorem rhash_c (s : ByteArray) (w : World) (hm : s.size ≤ 1000000) :
    Calls Try.prog 12 #[.string s] w fun e w' => e = .returned (.int .u64 (hashN (runesOf (toks (bl s))) : Int)) ∧ Below w.heap.size w w' := by
  have C := rrunes_c s w (by omega)
  have hlen : (runesOf (toks (bl s))).length ≤ 1000000 := by rw [runesOf_length]; have := toks_length (bl s); rw [← bl_size] at this; omega
  have hrl := rune_lt (bl s)
  generalize runesOf (toks (bl s)) = rs at *
  have C := Go.Lib.hid C
  have hlen := Go.Lib.hid hlen
  have hrl := Go.Lib.hid hrl
  have hf := Go.Lib.hid fold_nil
  go_enter Try.func12, Try.ntmps12
  go_wp2_with fail
  refine C.out.mono ?_
  rintro e w1 ⟨v1, v2, rfl, h1, -, hb⟩
  obtain ⟨a, c, rfl, -⟩ := h1.rv.form
  have e0 : (zi .i32 rs).length = rs.length := zi_length ..
  rw [e0] at h1 ⊢
  have HR := Go.Lib.hid h1.rv
  clear h1 e0 C
  go_wp2_with fail
  go_loop [3, 6] (fun hv iv => ∃ k : Nat, k ≤ rs.length ∧ iv = .int .i64 (k : Int) ∧ hv = .int .u64 (foldH (rs.take k) : Int)) (fun _ iv => rs.length - (intOf iv).toNat)
  case atStart => exact ⟨0, by omega, rfl, by rw [hf.out]; rfl⟩
  case round =>
    obtain ⟨k, hk, rfl, rfl⟩ := hrel
    by_cases hlt : k < rs.length
    · obtain ⟨b, o, rfl, hc, -⟩ := HR.out.at k (by rw [zi_length]; exact hlt)
      rw [zi_at _ _ _ hlt] at hc
      have hs := foldH_snoc (rs.take k) rs[k]
      rw [← List.take_succ_eq_append_getElem hlt] at hs
      have Hs := Go.Lib.hid hs
      have Hlt := Go.Lib.hid (foldH_lt (rs.take k))
      clear hs
      generalize foldH (rs.take k) = h at *
      have Hr := Go.Lib.hid (hrl.out rs[k] (List.getElem_mem hlt))
      generalize rs[k] = r at *
      have hk6 : k ≤ 1000000 := by have := hlen.out; omega
      have Hst := Go.Lib.hid (mix_step h r Hlt.out Hr.out)
      go_wp2_with fail
      go_round
      case rel => exact ⟨k + 1, by omega, by go_num, by rw [Hst.out, Hs.out]⟩
      case measure => simp only [intOf]; omega
    · obtain rfl : k = rs.length := by omega
      rw [List.take_length]
      have Ha := Go.Lib.hid (turn_a (foldH rs) (foldH_lt rs))
      have Hb := Go.Lib.hid (turn_b (foldH rs))
      have Hc := Go.Lib.hid (turn_c (foldH rs))
      have Hh := Go.Lib.hid (show hashN rs = turnC (foldH rs) from rfl)
      generalize foldH rs = h at *
      go_wp2_with fail
      go_ret
      refine ⟨ret_int (a := bits .xor .u64 (IntKind.u64.wrap (bits .xor .u64 (h : Int) ((h : Int) / 4294967296) * 11400714819323198485)) (IntKind.u64.wrap (bits .xor .u64 (h : Int) ((h : Int) / 4294967296) * 11400714819323198485) / 536870912)) ?_, hb⟩
      rw [Ha.out, Hb.out, Hc.out, Hh.out]

set_option maxRecDepth 100000 in
theorem rfirst_c (h : Nat) (w : World) (hh : h < 18446744073709551616) : Calls Try.prog 14 #[.int .u64 (h : Int)] w fun e w' => e = .returned (.int .i64 (firstN h : Int)) ∧ w = w' := by
  have e1 : (firstN h : Int) = (h : Int) % 8 := by unfold firstN; omega
  rw [e1]
  have hh' := Go.Lib.hid hh
  clear hh e1
  go_enter Try.func14, Try.ntmps14
  go_wp2_with fail
  go_ret
  exact ⟨rfl, rfl⟩
set_option maxRecDepth 100000 in
theorem rtag_c (h : Nat) (w : World) (hh : h < 18446744073709551616) : Calls Try.prog 16 #[.int .u64 (h : Int)] w fun e w' => e = .returned (.int .i64 (tagN h : Int)) ∧ w = w' := by
  have e1 : (tagN h : Int) = (h : Int) / 256 % 32768 := by unfold tagN; omega
  rw [e1]
  have hh' := Go.Lib.hid hh
  clear hh e1
  go_enter Try.func16, Try.ntmps16
  go_wp2_with fail
  go_ret
  have := hh'.out
  refine ⟨ret_int ?_, rfl⟩
  rw [IntKind.wrap_u64, Int.tmod_eq_emod_of_nonneg (by omega)]
  unfold wrap64
  omega
theorem otherI_bad {b t : Int} (h : b < 0 ∨ 7 < b ∨ t < 0 ∨ 32767 < t) : otherI b t = -1 := by unfold otherI; rw [if_pos h]
theorem otherI_ok {b t : Nat} (hb : b ≤ 7) (ht : t ≤ 32767) : otherI (b : Int) (t : Int) = ((b ^^^ (1 + t % 7) : Nat) : Int) := by
  unfold otherI
  rw [if_neg (by omega), Int.toNat_natCast, Int.toNat_natCast]
theorem i64_xor_small (a b : Nat) (ha : a < 128) (hb : b < 128) : bits .xor .i64 (a : Int) (b : Int) = ((a ^^^ b : Nat) : Int) := by
  have hx : a ^^^ b < 2 ^ 7 := Nat.xor_lt_two_pow (by omega) (by omega)
  show IntKind.i64.wrap ((BitVec.ofInt 64 (a : Int) ^^^ BitVec.ofInt 64 (b : Int)).toNat : Int) = _
  have e (a : Nat) (h : a < 128) : (BitVec.ofInt 64 (a : Int)).toNat = a := by
    rw [BitVec.ofInt_natCast, BitVec.toNat_ofNat]; exact Nat.mod_eq_of_lt (by omega)
  rw [BitVec.toNat_xor, e a ha, e b hb, IntKind.wrap_i64]
  omega
set_option maxRecDepth 100000 in
theorem rother_c (b t : Int) (w : World) : Calls Try.prog 18 #[.int .i64 b, .int .i64 t] w fun e w' => e = .returned (.int .i64 (otherI b t)) ∧ w = w' := by
  by_cases h1 : b < 0
  · have E := Go.Lib.hid (otherI_bad (b := b) (t := t) (.inl h1))
    go_enter Try.func18, Try.ntmps18
    go_wp2_with fail
    go_ret
    exact ⟨by rw [E.out]; rfl, rfl⟩
  by_cases h2 : 7 < b
  · have E := Go.Lib.hid (otherI_bad (b := b) (t := t) (.inr (.inl h2)))
    go_enter Try.func18, Try.ntmps18
    go_wp2_with fail
    go_ret
    exact ⟨by rw [E.out]; rfl, rfl⟩
  by_cases h3 : t < 0
  · have E := Go.Lib.hid (otherI_bad (b := b) (t := t) (.inr (.inr (.inl h3))))
    go_enter Try.func18, Try.ntmps18
    go_wp2_with fail
    go_ret
    exact ⟨by rw [E.out]; rfl, rfl⟩
  by_cases h4 : 32767 < t
  · have E := Go.Lib.hid (otherI_bad (b := b) (t := t) (.inr (.inr (.inr h4))))
    go_enter Try.func18, Try.ntmps18
    go_wp2_with fail
    go_ret
    exact ⟨by rw [E.out]; rfl, rfl⟩
  obtain ⟨B, rfl⟩ : ∃ B : Nat, b = (B : Int) := ⟨b.toNat, by omega⟩
  obtain ⟨T, rfl⟩ : ∃ T : Nat, t = (T : Int) := ⟨t.toNat, by omega⟩
  have E := Go.Lib.hid (otherI_ok (b := B) (t := T) (by omega) (by omega))
  have X := i64_xor_small B (1 + T % 7) (by omega) (by omega)
  rw [show ((1 + T % 7 : Nat) : Int) = 1 + (T : Int) % 7 from by omega] at X
  have X := Go.Lib.hid X
  go_enter Try.func18, Try.ntmps18
  go_wp2_with fail
  go_ret
  exact ⟨by rw [E.out]; rfl, rfl⟩

end Go.Proofs.Ytlmfdpdcffnocaa
