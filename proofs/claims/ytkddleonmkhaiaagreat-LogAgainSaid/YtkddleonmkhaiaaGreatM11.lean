/-
  The reference's Hash, First, Tag, Other.
  The contract of runes.Count.
  The contract of runes.Of.
-/
import Derived.Test.YtkddleonmkhaiaaGreatM10
import Derived.Test.YtkddleonmkhaiaaGreatM09
import Derived.Laws.BitsAllLaws
import Derived.Test.YtkddleonmkhaiaaGreatM03
namespace Go.Proofs.YtkddleonmkhaiaaGreat
open Go.RowKit

def two64 : Nat := 18446744073709551616
def seedN : Nat := 14695981039346656037
def primeN : Nat := 1099511628211
def goldN : Nat := 11400714819323198485
theorem two64_eq : two64 = 2 ^ 64 := by unfold two64; omega
theorem seed_lt : seedN < two64 := by unfold seedN two64; omega
theorem seed_eq : (14695981039346656037 : Int) = (seedN : Int) := by unfold seedN; omega
theorem prime_eq : primeN = 1099511628211 := rfl
theorem gold_eq : goldN = 11400714819323198485 := rfl
theorem two64_lit : two64 = 18446744073709551616 := rfl
attribute [irreducible] seedN primeN goldN two64
/-- One rune more. -/
def mixR (h r : Nat) : Nat := (h ^^^ r) * primeN % two64
/-- The runes' hash before the last turn. -/
def foldH (rs : List Nat) : Nat := rs.foldl mixR seedN
def turnA (h : Nat) : Nat := h ^^^ (h / 4294967296)
def turnB (h : Nat) : Nat := turnA h * goldN % two64
def turnC (h : Nat) : Nat := turnB h ^^^ (turnB h / 536870912)
def hashN (rs : List Nat) : Nat := turnC (foldH rs)

theorem two64_pos : 0 < two64 := by rw [two64_eq]; exact Nat.pow_pos (by omega)
theorem mixR_lt (h r : Nat) : mixR h r < two64 := by unfold mixR; exact Nat.mod_lt _ two64_pos
theorem foldH_lt (rs : List Nat) : foldH rs < two64 := by
  unfold foldH
  have : ∀ (l : List Nat) (h : Nat), h < two64 → l.foldl mixR h < two64 := by
    intro l
    induction l with
    | nil => intro h hh; exact hh
    | cons r l ih => intro h _; exact ih _ (mixR_lt h r)
  exact this rs _ seed_lt
theorem foldH_snoc (rs : List Nat) (r : Nat) : foldH (rs ++ [r]) = mixR (foldH rs) r := by
  unfold foldH
  rw [List.foldl_append, List.foldl_cons, List.foldl_nil]
theorem xor_lt64 {a b : Nat} (ha : a < two64) (hb : b < two64) : a ^^^ b < two64 := by
  rw [two64_eq] at *
  exact Nat.xor_lt_two_pow ha hb
theorem turnA_lt {h : Nat} (hh : h < two64) : turnA h < two64 := by unfold turnA; exact xor_lt64 hh (Nat.lt_of_le_of_lt (Nat.div_le_self _ _) hh)
theorem turnB_lt (h : Nat) : turnB h < two64 := by unfold turnB; exact Nat.mod_lt _ two64_pos
theorem turnC_lt (h : Nat) : turnC h < two64 := by unfold turnC; exact xor_lt64 (turnB_lt h) (Nat.lt_of_le_of_lt (Nat.div_le_self _ _) (turnB_lt h))
theorem hashN_lt (rs : List Nat) : hashN rs < two64 := turnC_lt _

theorem fold_nil : (14695981039346656037 : Int) = (foldH [] : Int) := seed_eq

theorem mix_step (h r : Nat) (hh : h < two64) (hr : r < 1114112) : IntKind.u64.wrap (bits .xor .u64 (h : Int) (IntKind.u64.wrap (r : Int)) * 1099511628211) = (mixR h r : Int) := by
  rw [two64_lit] at hh
  have e1 : IntKind.u64.wrap (r : Int) = (r : Int) := by rw [IntKind.wrap_u64]; omega
  rw [e1, u64_xor_nat h r hh (by omega), IntKind.wrap_u64]
  unfold mixR
  rw [prime_eq, two64_lit]
  generalize h ^^^ r = q
  omega
theorem turn_a (h : Nat) (hh : h < two64) : bits .xor .u64 (h : Int) ((h : Int) / 4294967296) = (turnA h : Int) := by
  rw [two64_lit] at hh
  have e : (h : Int) / 4294967296 = ((h / 4294967296 : Nat) : Int) := by omega
  rw [e, u64_xor_nat h (h / 4294967296) hh (by omega)]
  rfl
theorem turn_b (h : Nat) : IntKind.u64.wrap ((turnA h : Int) * 11400714819323198485) = (turnB h : Int) := by
  rw [IntKind.wrap_u64]
  unfold turnB
  rw [gold_eq, two64_lit]
  generalize turnA h = q
  omega
theorem turn_c (h : Nat) : bits .xor .u64 (turnB h : Int) ((turnB h : Int) / 536870912) = (turnC h : Int) := by
  have hh := turnB_lt h
  unfold turnC
  generalize turnB h = q at *
  rw [two64_lit] at hh
  have e : (q : Int) / 536870912 = ((q / 536870912 : Nat) : Int) := by omega
  rw [e, u64_xor_nat q (q / 536870912) hh (by omega)]
theorem rune_lt (l : List UInt8) : ∀ r ∈ runesOf (toks l), r < 1114112 := by
  intro r hr
  obtain ⟨t, ht, rfl⟩ := List.mem_map.1 hr
  have := (valid_iff t.1).1 (toks_good l t ht).1
  omega

set_option maxHeartbeats 1000000 in
set_option maxRecDepth 100000 in
theorem rhash_c (s : ByteArray) (w : World) (hm : s.size ≤ 1000000) :
    Calls Tryz.prog 27 #[.string s] w fun e w' => e = .returned (.int .u64 (hashN (runesOf (toks (bl s))) : Int)) ∧ Below w.heap.size w w' := by
  have C := rrunes_c s w (by omega)
  have hlen : (runesOf (toks (bl s))).length ≤ 1000000 := by rw [runesOf_length]; have := toks_length (bl s); rw [← bl_size] at this; omega
  have hrl := rune_lt (bl s)
  generalize runesOf (toks (bl s)) = rs at *
  have C := Go.Lib.hid C
  have hlen := Go.Lib.hid hlen
  have hrl := Go.Lib.hid hrl
  have hf := Go.Lib.hid fold_nil
  go_enter Tryz.func27, Tryz.ntmps27
  go_wp2_with fail
  refine C.out.mono ?_
  rintro e w1 ⟨v1, v2, rfl, h1, -, hb⟩
  obtain ⟨a, c, rfl, -⟩ := h1.rv.form
  have e0 : (zi .i32 rs).length = rs.length := zi_length ..
  rw [e0] at h1 ⊢
  have HR := Go.Lib.hid h1.rv
  clear h1 e0 C
  go_wp2_with fail
  go_loop [3, 6] (fun hv iv => ∃ k : Nat, k ≤ rs.length ∧ iv = .int .i64 (k : Int) ∧ hv = .int .u64 (foldH (rs.take k) : Int)) (fun _ iv => rs.length - (intOf iv).toNat)
  case atStart => exact ⟨0, by omega, rfl, by rw [hf.out]; rfl⟩
  case round =>
    obtain ⟨k, hk, rfl, rfl⟩ := hrel
    by_cases hlt : k < rs.length
    · obtain ⟨b, o, rfl, hc, -⟩ := HR.out.at k (by rw [zi_length]; exact hlt)
      rw [zi_at _ _ _ hlt] at hc
      have hs := foldH_snoc (rs.take k) rs[k]
      rw [← List.take_succ_eq_append_getElem hlt] at hs
      have Hs := Go.Lib.hid hs
      have Hlt := Go.Lib.hid (foldH_lt (rs.take k))
      clear hs
      generalize foldH (rs.take k) = h at *
      have Hr := Go.Lib.hid (hrl.out rs[k] (List.getElem_mem hlt))
      generalize rs[k] = r at *
      have hk6 : k ≤ 1000000 := by have := hlen.out; omega
      have Hst := Go.Lib.hid (mix_step h r Hlt.out Hr.out)
      go_wp2_with fail
      go_round
      case rel => exact ⟨k + 1, by omega, by go_num, by rw [Hst.out, Hs.out]⟩
      case measure => simp only [intOf]; omega
    · obtain rfl : k = rs.length := by omega
      rw [List.take_length]
      have Ha := Go.Lib.hid (turn_a (foldH rs) (foldH_lt rs))
      have Hb := Go.Lib.hid (turn_b (foldH rs))
      have Hc := Go.Lib.hid (turn_c (foldH rs))
      have Hh := Go.Lib.hid (show hashN rs = turnC (foldH rs) from rfl)
      generalize foldH rs = h at *
      go_wp2_with fail
      go_ret
      refine ⟨ret_int (a := bits .xor .u64 (IntKind.u64.wrap (bits .xor .u64 (h : Int) ((h : Int) / 4294967296) * 11400714819323198485)) (IntKind.u64.wrap (bits .xor .u64 (h : Int) ((h : Int) / 4294967296) * 11400714819323198485) / 536870912)) ?_, hb⟩
      rw [Ha.out, Hb.out, Hc.out, Hh.out]

end Go.Proofs.YtkddleonmkhaiaaGreat

namespace Go.Proofs.YtkddleonmkhaiaaGreat
open Go.RowKit

set_option maxRecDepth 100000 in
theorem count_c (s : ByteArray) (w : World) (hm : s.size ≤ 140737488355328) :
    Calls Tryz.prog 68 #[.string s] w fun e w' => e = .returned (.int .i64 ((toks (bl s)).length : Int)) ∧ Below w.heap.size w w' := by
  have hl1 := toks_length (bl s)
  rw [← bl_size] at hl1
  obtain ⟨T, hT⟩ : ∃ T, T = (toks (bl s)).length := ⟨_, rfl⟩
  rw [← hT] at hl1 ⊢
  have HT := Go.Lib.hid hT; clear hT
  go_enter Tryz.func68, Tryz.ntmps68
  go_wp2
  go_loopw [3] (fun u wr => ∃ n : Nat, n ≤ T ∧ u = .int .i64 (n : Int) ∧ wr.heap[w.heap.size]? = some (.stringIter s (posOf (bl s) n)) ∧ Below w.heap.size w wr) (fun u _ => T - (intOf u).toNat)
  case atStart => exact ⟨0, by omega, rfl, World.iter_heap w s 0, (Below.refl _ w).alloc (Nat.le_refl _) _⟩
  case round =>
    obtain ⟨n, hn, rfl, hit, hbw⟩ := hrel
    by_cases hlt : n < T
    · obtain ⟨p1, p2, p3, p4⟩ := next_some s n (by rw [← HT.out]; exact hlt)
      have hnx : ∀ ty, (Instr.next (.pointer (some ⟨w.heap.size, 0, none⟩)) true ty).run Tryz.prog wr = _ := fun ty => Go.Lib.run_next_any_at wr w.heap.size s _ ty hit p1
      have hit2 := Go.Lib.iterAt_heap wr w.heap.size s _ (posOf (bl s) (n + 1)) hit
      have hbw2 := below_iter hbw (Nat.le_refl _) s (posOf (bl s) (n + 1))
      rw [p3] at hnx
      rw [p2] at hnx
      clear p1 p2 p3 p4
      go_wp2
      go_roundw
      case rel => exact ⟨n + 1, by omega, by go_num, hit2, hbw2⟩
      case measure => simp [intOf]; omega
    · have hend : ¬ posOf (bl s) n < s.size := by
        rw [posOf_all (bl s) n (by rw [← HT.out]; omega), bl_size]
        exact Nat.lt_irrefl _
      have hnx : ∀ ty, (Instr.next (.pointer (some ⟨w.heap.size, 0, none⟩)) true ty).run Tryz.prog wr = _ := fun ty => Go.Lib.run_next_end_at wr w.heap.size s _ ty hit hend
      obtain rfl : n = T := by omega
      clear hend
      go_wp2
      go_ret
      exact ⟨rfl, hbw⟩

end Go.Proofs.YtkddleonmkhaiaaGreat

namespace Go.Proofs.YtkddleonmkhaiaaGreat
open Go.RowKit

set_option maxRecDepth 100000 in
theorem of_c (s : ByteArray) (w : World) (hm : s.size ≤ 1000000000) :
    Calls Tryz.prog 56 #[.string s] w fun e w' => ∃ v, e = .returned v ∧ OwnV 21 w' w.heap.size v (zi .i32 (runesOf (toks (bl s)))) ∧ Below w.heap.size w w' := by
  have hl1 := toks_length (bl s)
  rw [← bl_size] at hl1
  have C := Go.Lib.hid (count_c s w (by omega))
  obtain ⟨T, hT⟩ : ∃ T, T = (toks (bl s)).length := ⟨_, rfl⟩
  rw [← hT] at hl1 C
  have HT := Go.Lib.hid hT; clear hT
  go_enter Tryz.func56, Tryz.ntmps56
  go_wp2_with (first
    | (refine C.out.mono ?_; rintro e w1 ⟨rfl, hb1⟩)
    | (with_reducible show wpList _ _ _ (⟨some 8, _, _, _, _, _⟩ :: _) _ _; go_loud (refine wpList_make_none rfl (.const (.int .i64 0)) (.tmp 7) 83 rfl 21 Tryz.underlying83 (.int .i32 0) 4 info32 .i64 .i64 _ T rfl rfl rfl (by omega) (by omega) ?_); intro v2 w2 hown2 hg2; have hb2 := hb1.grown hg2 hb1.size (by simp))
    | fail)
  go_loopw [3] (fun u wr => ∃ (n : Nat) (v : Value), v = u ∧ n ≤ T ∧ OwnV 21 wr w.heap.size v (zi .i32 ((runesOf (toks (bl s))).take n)) ∧ wr.heap[w2.heap.size]? = some (.stringIter s (posOf (bl s) n)) ∧ Below w.heap.size w wr) (fun _ wr => s.size - wr.iterPos w2.heap.size)
  case atStart => exact ⟨0, _, rfl, by omega, (hown2.mono hb1.size).alloc _, World.iter_heap w2 s 0, hb2.alloc hb2.size _⟩
  case round =>
    obtain ⟨n, v, rfl, hn, hown, hit, hbw⟩ := hrel
    by_cases hlt : n < T
    · have hT' : n < (toks (bl s)).length := by rw [← HT.out]; exact hlt
      obtain ⟨p1, p2, p3, p4⟩ := next_some s n hT'
      have hnx : ∀ ty, (Instr.next (.pointer (some ⟨w2.heap.size, 0, none⟩)) true ty).run Tryz.prog wr = _ := fun ty => Go.Lib.run_next_any_at wr w2.heap.size s _ ty hit p1
      rw [p3] at hnx
      rw [p2] at hnx
      rw [← p4] at hnx
      have hit2 := Go.Lib.iterAt_heap wr w2.heap.size s _ (posOf (bl s) (n + 1)) hit
      have hbw2 := below_iter hbw hb2.size s (posOf (bl s) (n + 1))
      have hown2 := hown.other (w' := wr.iterAt w2.heap.size s (posOf (bl s) (n + 1))) w2.heap.size _ hit (fun _ _ _ h => by cases h) (fun j hj => Go.Lib.iterAt_other wr w2.heap.size j s _ hj)
      have hmore := Go.Lib.hid (zi_more .i32 (toks (bl s)) n hT')
      have hmeas : Hid (s.size - posOf (bl s) (n + 1) < s.size - wr.iterPos w2.heap.size) := by
        have := posOf_lt_succ (bl s) n hT'
        simp only [Hid, World.iterPos, hit]
        omega
      have hnl : ((runesOf (toks (bl s))).take n).length = n := by rw [List.length_take, runesOf_length]; omega
      have Hnl := Go.Lib.hid hnl; clear hnl
      clear p1 p2 p3 p4 hit hbw hown
      generalize (toks (bl s))[n].1 = r at hnx hmore
      generalize wr.iterAt w2.heap.size s (posOf (bl s) (n + 1)) = wi at hnx hit2 hbw2 hown2
      have hown3 := hown2.alloc (.cells #[.int .i32 (r : Int)] 21)
      have hrv := RV.one wi 21 (.int .i32 (r : Int))
      have hbw3 := hbw2.alloc hbw2.size (.cells #[.int .i32 (r : Int)] 21)
      have hit3 := iter_alloc hit2 (.cells #[.int .i32 (r : Int)] 21)
      have hone : ∀ u ∈ [Value.int .i32 (r : Int)], u.oneCell' = true := by intro u hu; obtain rfl := List.mem_singleton.1 hu; rfl
      have hln1 : ((zi .i32 ((runesOf (toks (bl s))).take n)).length + [Value.int .i32 (r : Int)].length) * 4 ≤ 140737488355328 := by rw [zi_length, Hnl.out]; simp only [List.length_cons, List.length_nil]; omega
      have hln2 : (zi .i32 ((runesOf (toks (bl s))).take n)).length + [Value.int .i32 (r : Int)].length ≤ 140737488355328 := by omega
      go_wp2_with (first
        | (with_reducible show wpList _ _ _ (⟨some 17, _, _, _, _, _⟩ :: _) _ _; refine wpList_append_RV rfl (.tmp 14) (.tmp 16) 83 rfl w.heap.size 21 Tryz.underlying83 (.int .i32 0) 4 rfl info32 v (.slice (some ⟨wi.heap.size, 0, none⟩) 1 1) (zi .i32 ((runesOf (toks (bl s))).take n)) [.int .i32 (r : Int)] rfl rfl hown3 hrv hone hln1 hln2 hbw3.size ?_; intro v4 w4 hown4 hg4; have hb4 := hbw3.grown hg4 hbw3.size hown2.row; have hit4 := iter_kept hit3 hown3 hg4)
        | fail)
      go_roundw
      case rel => exact ⟨n + 1, _, rfl, by omega, by rw [← hmore.out]; exact hown4, hit4, hb4⟩
      case measure => simp only [World.iterPos, hit4]; exact hmeas.out
    · have hend : ¬ posOf (bl s) n < s.size := by
        rw [posOf_all (bl s) n (by rw [← HT.out]; omega), bl_size]
        exact Nat.lt_irrefl _
      have hnx : ∀ ty, (Instr.next (.pointer (some ⟨w2.heap.size, 0, none⟩)) true ty).run Tryz.prog wr = _ := fun ty => Go.Lib.run_next_end_at wr w2.heap.size s _ ty hit hend
      clear hend
      rw [List.take_of_length_le (by rw [runesOf_length, ← HT.out]; omega)] at hown
      go_wp2
      go_ret
      exact ⟨_, rfl, hown, hbw⟩

end Go.Proofs.YtkddleonmkhaiaaGreat
