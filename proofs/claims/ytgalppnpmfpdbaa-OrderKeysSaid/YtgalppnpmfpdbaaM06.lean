/-
  What elements of []rune and []int are.
  The contract of the reference's Runes.
  The reference's Hash, First, Tag, Other.
  The contract of runes.Count.
  The contract of runes.Of.
  The contracts of hash.Of, First, Tag, Other.
  Which record may be, of a record as one letter.
  Mathematics of a log (of no code): records of different keys in the order in which they came, their entries, the same ones by rising keys.
-/
import Derived.Test.YtgalppnpmfpdbaaM01
import Derived.Test.YtgalppnpmfpdbaaM02
import Derived.Test.YtgalppnpmfpdbaaM05
import Derived.Laws.BitsAllLaws
import Derived.Test.YtgalppnpmfpdbaaM04
namespace Go.Proofs.Ytgalppnpmfpdbaa
open Go.RowKit

theorem info32 : (Try.prog.info? 21).map (fun i => (i.zero, i.size, i.bytes)) = some (some (.int .i32 0), 1, 4) := by kernel_rfl

theorem info64 : (Try.prog.info? 3).map (fun i => (i.zero, i.size, i.bytes)) = some (some (.int .i64 0), 1, 8) := by kernel_rfl

end Go.Proofs.Ytgalppnpmfpdbaa

namespace Go.Proofs.Ytgalppnpmfpdbaa
open Go.RowKit

/-- Where each begins. -/
def posl (l : List UInt8) : List Nat := (List.range (toks l).length).map (posOf l)

theorem posl_length (l : List UInt8) : (posl l).length = (toks l).length := by simp [posl]

theorem posl_at (l : List UInt8) (i : Nat) (h : i < (posl l).length) : (posl l)[i] = posOf l i := by simp [posl]

theorem posl_more (l : List UInt8) (n : Nat) (h : n < (toks l).length) : zi .i64 ((posl l).take n) ++ [.int .i64 (posOf l n : Int)] = zi .i64 ((posl l).take (n + 1)) := by
  have h' : n < (posl l).length := by rw [posl_length]; exact h
  rw [List.take_succ_eq_append_getElem h', zi_append, posl_at]
  rfl

set_option maxHeartbeats 1000000 in
set_option maxRecDepth 100000 in
theorem rrunes_c (s : ByteArray) (w : World) (hm : s.size ≤ 1000000000) :
    Calls Try.prog 49 #[.string s] w fun e w' => ∃ v1 v2, e = .returned (.tuple #[v1, v2]) ∧ OwnV 21 w' w.heap.size v1 (zi .i32 (runesOf (toks (bl s)))) ∧ OwnV 3 w' w.heap.size v2 (zi .i64 (posl (bl s))) ∧ Below w.heap.size w w' := by
  have hl1 := toks_length (bl s)
  rw [← bl_size] at hl1
  obtain ⟨T, hT⟩ : ∃ T, T = (toks (bl s)).length := ⟨_, rfl⟩
  rw [← hT] at hl1
  have HT := Go.Lib.hid hT; clear hT
  go_enter Try.func49, Try.ntmps49
  go_wp2
  go_loopw [4, 5, 6] (fun u1 u2 u wr => ∃ (n p : Nat) (v1 v2 : Value), v1 = u1 ∧ v2 = u2 ∧ n ≤ T ∧ u = .int .i64 (p : Int) ∧ p ≤ s.size ∧ Hid (p = posOf (bl s) n) ∧ OwnV 21 wr w.heap.size v1 (zi .i32 ((runesOf (toks (bl s))).take n)) ∧ OwnV 3 wr w.heap.size v2 (zi .i64 ((posl (bl s)).take n)) ∧ Below w.heap.size w wr) (fun _ _ u _ => s.size - (intOf u).toNat)
  case atStart => exact ⟨0, 0, _, _, rfl, rfl, by omega, rfl, by omega, rfl, OwnV.nil _ _ _, OwnV.nil _ _ _, Below.refl _ _⟩
  case round =>
    obtain ⟨n, p, v1, v2, rfl, rfl, hn, rfl, hps, hp, hown1, hown2, hbw⟩ := hrel
    by_cases hlt : n < T
    · have hT' : n < (toks (bl s)).length := by rw [← HT.out]; exact hlt
      have hne := drop_ne (bl s) n hT'
      rw [← hp.out] at hne
      have hplt : p < s.size := by
        rw [bl_size]
        exact Nat.lt_of_not_le fun hh => hne (List.drop_eq_nil_of_le hh)
      have hsz : (s.extract p s.size).size ≤ maxLen := by rw [ByteArray.size_extract]; unfold maxLen; omega
      have C := fun W => decode_c (s.extract p s.size) W (by rw [drop_bl]; exact hne) hsz
      rw [drop_bl] at C
      have hsucc := posOf_succ (bl s) n hT'
      have hm1 := Go.Lib.hid (zi_more .i32 (toks (bl s)) n hT')
      have hm2 := Go.Lib.hid (posl_more (bl s) n hT')
      have hg := congrArg Prod.fst (get_toks (bl s) n hT')
      have hple := posOf_le (bl s) (n + 1)
      rw [← bl_size] at hple
      rw [← hp.out] at hsucc hg hm2
      have hdw := (dw_le _ hne).1
      rw [hsucc] at hple
      have hn1 : (zi .i32 ((runesOf (toks (bl s))).take n)).length = n := by rw [zi_length, List.length_take, runesOf_length]; omega
      have hn2 : (zi .i64 ((posl (bl s)).take n)).length = n := by rw [zi_length, List.length_take, posl_length]; omega
      simp only at hg
      rw [hg] at hm1
      clear hsz hne hg
      unfold dv at C
      generalize (bl s).drop p = L at *
      have Hsucc := Go.Lib.hid hsucc; clear hsucc
      have HC := Go.Lib.hid C; clear C
      generalize dr L = r at *
      generalize dw L = d at *
      generalize okB L = ok at *
      have Hn1 := Go.Lib.hid hn1; clear hn1
      have Hn2 := Go.Lib.hid hn2; clear hn2
      generalize zi .i32 ((runesOf (toks (bl s))).take n) = z1 at *
      generalize zi .i64 ((posl (bl s)).take n) = z2 at *
      go_wp2_with (first
        | (refine (HC.out _).mono ?_; rintro e w1 ⟨rfl, rfl⟩)
        | (with_reducible show wpList _ _ _ (⟨some 25, _, _, _, _, _⟩ :: _) _ _; go_loud (refine wpList_append_RV rfl (.tmp 22) (.tmp 24) 91 rfl w.heap.size 21 Try.underlying91 (.int .i32 0) 4 rfl info32 v1 (.slice (some ⟨wr.heap.size, 0, none⟩) 1 1) z1 [.int .i32 (r : Int)] rfl rfl (hown1.alloc _) (RV.one _ _ _) (one_one _ _) (by rw [Hn1.out]; simp only [List.length_cons, List.length_nil]; omega) (by rw [Hn1.out]; simp only [List.length_cons, List.length_nil]; omega) (hbw.alloc hbw.size _).size ?_); intro v3 w3 hown3 hg3; have hb3 := (hbw.alloc hbw.size _).grown hg3 (hbw.alloc hbw.size _).size hown1.row; have hown2' := (hown2.alloc _).kept hg3 (own_apart (by decide) hown1 hown2))
        | (with_reducible show wpList _ _ _ (⟨some 29, _, _, _, _, _⟩ :: _) _ _; go_loud (refine wpList_append_RV rfl (.tmp 26) (.tmp 28) 92 rfl w.heap.size 3 Try.underlying92 (.int .i64 0) 8 rfl info64 v2 (.slice (some ⟨w3.heap.size, 0, none⟩) 1 1) z2 [.int .i64 (p : Int)] rfl rfl (hown2'.alloc _) (RV.one _ _ _) (one_one _ _) (by rw [Hn2.out]; simp only [List.length_cons, List.length_nil]; omega) (by rw [Hn2.out]; simp only [List.length_cons, List.length_nil]; omega) (hb3.alloc hb3.size _).size ?_); intro v5 w5 hown5 hg5; have hb5 := (hb3.alloc hb3.size _).grown hg5 (hb3.alloc hb3.size _).size hown2'.row; have hown3' := (hown3.alloc _).kept hg5 (own_apart (by decide) hown2' hown3))
        | fail)
      go_roundw
      case rel => exact ⟨n + 1, p + d, _, _, rfl, rfl, by omega, by go_num, by omega, Hsucc.out.symm, by rw [← hm1.out]; exact hown3', by rw [← hm2.out]; exact hown5, hb5⟩
      case measure => simp [intOf]; omega
    · have hpe : p = s.size := by
        rw [hp.out, posOf_all (bl s) n (by rw [← HT.out]; omega), bl_size]
      rw [List.take_of_length_le (by rw [runesOf_length, ← HT.out]; omega)] at hown1
      rw [List.take_of_length_le (by rw [posl_length, ← HT.out]; omega)] at hown2
      clear hp
      subst hpe
      go_wp2
      go_ret2
      exact ⟨_, _, rfl, hown1, hown2, hbw⟩

end Go.Proofs.Ytgalppnpmfpdbaa

namespace Go.Proofs.Ytgalppnpmfpdbaa
open Go.RowKit

def two64 : Nat := 18446744073709551616
def seedN : Nat := 14695981039346656037
def primeN : Nat := 1099511628211
def goldN : Nat := 11400714819323198485
theorem two64_eq : two64 = 2 ^ 64 := by unfold two64; omega
theorem seed_lt : seedN < two64 := by unfold seedN two64; omega
theorem seed_eq : (14695981039346656037 : Int) = (seedN : Int) := by unfold seedN; omega
theorem prime_eq : primeN = 1099511628211 := rfl
theorem gold_eq : goldN = 11400714819323198485 := rfl
theorem two64_lit : two64 = 18446744073709551616 := rfl
attribute [irreducible] seedN primeN goldN two64
/-- One rune more. -/
def mixR (h r : Nat) : Nat := (h ^^^ r) * primeN % two64
/-- The runes' hash before the last turn. -/
def foldH (rs : List Nat) : Nat := rs.foldl mixR seedN
def turnA (h : Nat) : Nat := h ^^^ (h / 4294967296)
def turnB (h : Nat) : Nat := turnA h * goldN % two64
def turnC (h : Nat) : Nat := turnB h ^^^ (turnB h / 536870912)
def hashN (rs : List Nat) : Nat := turnC (foldH rs)

theorem two64_pos : 0 < two64 := by rw [two64_eq]; exact Nat.pow_pos (by omega)
theorem mixR_lt (h r : Nat) : mixR h r < two64 := by unfold mixR; exact Nat.mod_lt _ two64_pos
theorem foldH_lt (rs : List Nat) : foldH rs < two64 := by
  unfold foldH
  have : ∀ (l : List Nat) (h : Nat), h < two64 → l.foldl mixR h < two64 := by
    intro l
    induction l with
    | nil => intro h hh; exact hh
    | cons r l ih => intro h _; exact ih _ (mixR_lt h r)
  exact this rs _ seed_lt
theorem foldH_snoc (rs : List Nat) (r : Nat) : foldH (rs ++ [r]) = mixR (foldH rs) r := by
  unfold foldH
  rw [List.foldl_append, List.foldl_cons, List.foldl_nil]
theorem xor_lt64 {a b : Nat} (ha : a < two64) (hb : b < two64) : a ^^^ b < two64 := by
  rw [two64_eq] at *
  exact Nat.xor_lt_two_pow ha hb
theorem turnA_lt {h : Nat} (hh : h < two64) : turnA h < two64 := by unfold turnA; exact xor_lt64 hh (Nat.lt_of_le_of_lt (Nat.div_le_self _ _) hh)
theorem turnB_lt (h : Nat) : turnB h < two64 := by unfold turnB; exact Nat.mod_lt _ two64_pos
theorem turnC_lt (h : Nat) : turnC h < two64 := by unfold turnC; exact xor_lt64 (turnB_lt h) (Nat.lt_of_le_of_lt (Nat.div_le_self _ _) (turnB_lt h))
theorem hashN_lt (rs : List Nat) : hashN rs < two64 := turnC_lt _

theorem fold_nil : (14695981039346656037 : Int) = (foldH [] : Int) := seed_eq

theorem mix_step (h r : Nat) (hh : h < two64) (hr : r < 1114112) : IntKind.u64.wrap (bits .xor .u64 (h : Int) (IntKind.u64.wrap (r : Int)) * 1099511628211) = (mixR h r : Int) := by
  rw [two64_lit] at hh
  have e1 : IntKind.u64.wrap (r : Int) = (r : Int) := by rw [IntKind.wrap_u64]; omega
  rw [e1, u64_xor_nat h r hh (by omega), IntKind.wrap_u64]
  unfold mixR
  rw [prime_eq, two64_lit]
  generalize h ^^^ r = q
  omega
theorem turn_a (h : Nat) (hh : h < two64) : bits .xor .u64 (h : Int) ((h : Int) / 4294967296) = (turnA h : Int) := by
  rw [two64_lit] at hh
  have e : (h : Int) / 4294967296 = ((h / 4294967296 : Nat) : Int) := by omega
  rw [e, u64_xor_nat h (h / 4294967296) hh (by omega)]
  rfl
theorem turn_b (h : Nat) : IntKind.u64.wrap ((turnA h : Int) * 11400714819323198485) = (turnB h : Int) := by
  rw [IntKind.wrap_u64]
  unfold turnB
  rw [gold_eq, two64_lit]
  generalize turnA h = q
  omega
theorem turn_c (h : Nat) : bits .xor .u64 (turnB h : Int) ((turnB h : Int) / 536870912) = (turnC h : Int) := by
  have hh := turnB_lt h
  unfold turnC
  generalize turnB h = q at *
  rw [two64_lit] at hh
  have e : (q : Int) / 536870912 = ((q / 536870912 : Nat) : Int) := by omega
  rw [e, u64_xor_nat q (q / 536870912) hh (by omega)]
theorem rune_lt (l : List UInt8) : ∀ r ∈ runesOf (toks l), r < 1114112 := by
  intro r hr
  obtain ⟨t, ht, rfl⟩ := List.mem_map.1 hr
  have := (valid_iff t.1).1 (toks_good l t ht).1
  omega

set_option maxHeartbeats 1000000 in
set_option maxRecDepth 100000 in
theorem rhash_c (s : ByteArray) (w : World) (hm : s.size ≤ 1000000) :
    Calls Try.prog 26 #[.string s] w fun e w' => e = .returned (.int .u64 (hashN (runesOf (toks (bl s))) : Int)) ∧ Below w.heap.size w w' := by
  have C := rrunes_c s w (by omega)
  have hlen : (runesOf (toks (bl s))).length ≤ 1000000 := by rw [runesOf_length]; have := toks_length (bl s); rw [← bl_size] at this; omega
  have hrl := rune_lt (bl s)
  generalize runesOf (toks (bl s)) = rs at *
  have C := Go.Lib.hid C
  have hlen := Go.Lib.hid hlen
  have hrl := Go.Lib.hid hrl
  have hf := Go.Lib.hid fold_nil
  go_enter Try.func26, Try.ntmps26
  go_wp2_with fail
  refine C.out.mono ?_
  rintro e w1 ⟨v1, v2, rfl, h1, -, hb⟩
  obtain ⟨a, c, rfl, -⟩ := h1.rv.form
  have e0 : (zi .i32 rs).length = rs.length := zi_length ..
  rw [e0] at h1 ⊢
  have HR := Go.Lib.hid h1.rv
  clear h1 e0 C
  go_wp2_with fail
  go_loop [3, 6] (fun hv iv => ∃ k : Nat, k ≤ rs.length ∧ iv = .int .i64 (k : Int) ∧ hv = .int .u64 (foldH (rs.take k) : Int)) (fun _ iv => rs.length - (intOf iv).toNat)
  case atStart => exact ⟨0, by omega, rfl, by rw [hf.out]; rfl⟩
  case round =>
    obtain ⟨k, hk, rfl, rfl⟩ := hrel
    by_cases hlt : k < rs.length
    · obtain ⟨b, o, rfl, hc, -⟩ := HR.out.at k (by rw [zi_length]; exact hlt)
      rw [zi_at _ _ _ hlt] at hc
      have hs := foldH_snoc (rs.take k) rs[k]
      rw [← List.take_succ_eq_append_getElem hlt] at hs
      have Hs := Go.Lib.hid hs
      have Hlt := Go.Lib.hid (foldH_lt (rs.take k))
      clear hs
      generalize foldH (rs.take k) = h at *
      have Hr := Go.Lib.hid (hrl.out rs[k] (List.getElem_mem hlt))
      generalize rs[k] = r at *
      have hk6 : k ≤ 1000000 := by have := hlen.out; omega
      have Hst := Go.Lib.hid (mix_step h r Hlt.out Hr.out)
      go_wp2_with fail
      go_round
      case rel => exact ⟨k + 1, by omega, by go_num, by rw [Hst.out, Hs.out]⟩
      case measure => simp only [intOf]; omega
    · obtain rfl : k = rs.length := by omega
      rw [List.take_length]
      have Ha := Go.Lib.hid (turn_a (foldH rs) (foldH_lt rs))
      have Hb := Go.Lib.hid (turn_b (foldH rs))
      have Hc := Go.Lib.hid (turn_c (foldH rs))
      have Hh := Go.Lib.hid (show hashN rs = turnC (foldH rs) from rfl)
      generalize foldH rs = h at *
      go_wp2_with fail
      go_ret
      refine ⟨ret_int (a := bits .xor .u64 (IntKind.u64.wrap (bits .xor .u64 (h : Int) ((h : Int) / 4294967296) * 11400714819323198485)) (IntKind.u64.wrap (bits .xor .u64 (h : Int) ((h : Int) / 4294967296) * 11400714819323198485) / 536870912)) ?_, hb⟩
      rw [Ha.out, Hb.out, Hc.out, Hh.out]

end Go.Proofs.Ytgalppnpmfpdbaa

namespace Go.Proofs.Ytgalppnpmfpdbaa
open Go.RowKit

set_option maxRecDepth 100000 in
theorem count_c (s : ByteArray) (w : World) (hm : s.size ≤ 140737488355328) :
    Calls Try.prog 82 #[.string s] w fun e w' => e = .returned (.int .i64 ((toks (bl s)).length : Int)) ∧ Below w.heap.size w w' := by
  have hl1 := toks_length (bl s)
  rw [← bl_size] at hl1
  obtain ⟨T, hT⟩ : ∃ T, T = (toks (bl s)).length := ⟨_, rfl⟩
  rw [← hT] at hl1 ⊢
  have HT := Go.Lib.hid hT; clear hT
  go_enter Try.func82, Try.ntmps82
  go_wp2
  go_loopw [3] (fun u wr => ∃ n : Nat, n ≤ T ∧ u = .int .i64 (n : Int) ∧ wr.heap[w.heap.size]? = some (.stringIter s (posOf (bl s) n)) ∧ Below w.heap.size w wr) (fun u _ => T - (intOf u).toNat)
  case atStart => exact ⟨0, by omega, rfl, World.iter_heap w s 0, (Below.refl _ w).alloc (Nat.le_refl _) _⟩
  case round =>
    obtain ⟨n, hn, rfl, hit, hbw⟩ := hrel
    by_cases hlt : n < T
    · obtain ⟨p1, p2, p3, p4⟩ := next_some s n (by rw [← HT.out]; exact hlt)
      have hnx : ∀ ty, (Instr.next (.pointer (some ⟨w.heap.size, 0, none⟩)) true ty).run Try.prog wr = _ := fun ty => Go.Lib.run_next_any_at wr w.heap.size s _ ty hit p1
      have hit2 := Go.Lib.iterAt_heap wr w.heap.size s _ (posOf (bl s) (n + 1)) hit
      have hbw2 := below_iter hbw (Nat.le_refl _) s (posOf (bl s) (n + 1))
      rw [p3] at hnx
      rw [p2] at hnx
      clear p1 p2 p3 p4
      go_wp2
      go_roundw
      case rel => exact ⟨n + 1, by omega, by go_num, hit2, hbw2⟩
      case measure => simp [intOf]; omega
    · have hend : ¬ posOf (bl s) n < s.size := by
        rw [posOf_all (bl s) n (by rw [← HT.out]; omega), bl_size]
        exact Nat.lt_irrefl _
      have hnx : ∀ ty, (Instr.next (.pointer (some ⟨w.heap.size, 0, none⟩)) true ty).run Try.prog wr = _ := fun ty => Go.Lib.run_next_end_at wr w.heap.size s _ ty hit hend
      obtain rfl : n = T := by omega
      clear hend
      go_wp2
      go_ret
      exact ⟨rfl, hbw⟩

end Go.Proofs.Ytgalppnpmfpdbaa

namespace Go.Proofs.Ytgalppnpmfpdbaa
open Go.RowKit

set_option maxRecDepth 100000 in
theorem of_c (s : ByteArray) (w : World) (hm : s.size ≤ 1000000000) :
    Calls Try.prog 70 #[.string s] w fun e w' => ∃ v, e = .returned v ∧ OwnV 21 w' w.heap.size v (zi .i32 (runesOf (toks (bl s)))) ∧ Below w.heap.size w w' := by
  have hl1 := toks_length (bl s)
  rw [← bl_size] at hl1
  have C := Go.Lib.hid (count_c s w (by omega))
  obtain ⟨T, hT⟩ : ∃ T, T = (toks (bl s)).length := ⟨_, rfl⟩
  rw [← hT] at hl1 C
  have HT := Go.Lib.hid hT; clear hT
  go_enter Try.func70, Try.ntmps70
  go_wp2_with (first
    | (refine C.out.mono ?_; rintro e w1 ⟨rfl, hb1⟩)
    | (with_reducible show wpList _ _ _ (⟨some 8, _, _, _, _, _⟩ :: _) _ _; go_loud (refine wpList_make_none rfl (.const (.int .i64 0)) (.tmp 7) 91 rfl 21 Try.underlying91 (.int .i32 0) 4 info32 .i64 .i64 _ T rfl rfl rfl (by omega) (by omega) ?_); intro v2 w2 hown2 hg2; have hb2 := hb1.grown hg2 hb1.size (by simp))
    | fail)
  go_loopw [3] (fun u wr => ∃ (n : Nat) (v : Value), v = u ∧ n ≤ T ∧ OwnV 21 wr w.heap.size v (zi .i32 ((runesOf (toks (bl s))).take n)) ∧ wr.heap[w2.heap.size]? = some (.stringIter s (posOf (bl s) n)) ∧ Below w.heap.size w wr) (fun _ wr => s.size - wr.iterPos w2.heap.size)
  case atStart => exact ⟨0, _, rfl, by omega, (hown2.mono hb1.size).alloc _, World.iter_heap w2 s 0, hb2.alloc hb2.size _⟩
  case round =>
    obtain ⟨n, v, rfl, hn, hown, hit, hbw⟩ := hrel
    by_cases hlt : n < T
    · have hT' : n < (toks (bl s)).length := by rw [← HT.out]; exact hlt
      obtain ⟨p1, p2, p3, p4⟩ := next_some s n hT'
      have hnx : ∀ ty, (Instr.next (.pointer (some ⟨w2.heap.size, 0, none⟩)) true ty).run Try.prog wr = _ := fun ty => Go.Lib.run_next_any_at wr w2.heap.size s _ ty hit p1
      rw [p3] at hnx
      rw [p2] at hnx
      rw [← p4] at hnx
      have hit2 := Go.Lib.iterAt_heap wr w2.heap.size s _ (posOf (bl s) (n + 1)) hit
      have hbw2 := below_iter hbw hb2.size s (posOf (bl s) (n + 1))
      have hown2 := hown.other (w' := wr.iterAt w2.heap.size s (posOf (bl s) (n + 1))) w2.heap.size _ hit (fun _ _ _ h => by cases h) (fun j hj => Go.Lib.iterAt_other wr w2.heap.size j s _ hj)
      have hmore := Go.Lib.hid (zi_more .i32 (toks (bl s)) n hT')
      have hmeas : Hid (s.size - posOf (bl s) (n + 1) < s.size - wr.iterPos w2.heap.size) := by
        have := posOf_lt_succ (bl s) n hT'
        simp only [Hid, World.iterPos, hit]
        omega
      have hnl : ((runesOf (toks (bl s))).take n).length = n := by rw [List.length_take, runesOf_length]; omega
      have Hnl := Go.Lib.hid hnl; clear hnl
      clear p1 p2 p3 p4 hit hbw hown
      generalize (toks (bl s))[n].1 = r at hnx hmore
      generalize wr.iterAt w2.heap.size s (posOf (bl s) (n + 1)) = wi at hnx hit2 hbw2 hown2
      have hown3 := hown2.alloc (.cells #[.int .i32 (r : Int)] 21)
      have hrv := RV.one wi 21 (.int .i32 (r : Int))
      have hbw3 := hbw2.alloc hbw2.size (.cells #[.int .i32 (r : Int)] 21)
      have hit3 := iter_alloc hit2 (.cells #[.int .i32 (r : Int)] 21)
      have hone : ∀ u ∈ [Value.int .i32 (r : Int)], u.oneCell' = true := by intro u hu; obtain rfl := List.mem_singleton.1 hu; rfl
      have hln1 : ((zi .i32 ((runesOf (toks (bl s))).take n)).length + [Value.int .i32 (r : Int)].length) * 4 ≤ 140737488355328 := by rw [zi_length, Hnl.out]; simp only [List.length_cons, List.length_nil]; omega
      have hln2 : (zi .i32 ((runesOf (toks (bl s))).take n)).length + [Value.int .i32 (r : Int)].length ≤ 140737488355328 := by omega
      go_wp2_with (first
        | (with_reducible show wpList _ _ _ (⟨some 17, _, _, _, _, _⟩ :: _) _ _; refine wpList_append_RV rfl (.tmp 14) (.tmp 16) 91 rfl w.heap.size 21 Try.underlying91 (.int .i32 0) 4 rfl info32 v (.slice (some ⟨wi.heap.size, 0, none⟩) 1 1) (zi .i32 ((runesOf (toks (bl s))).take n)) [.int .i32 (r : Int)] rfl rfl hown3 hrv hone hln1 hln2 hbw3.size ?_; intro v4 w4 hown4 hg4; have hb4 := hbw3.grown hg4 hbw3.size hown2.row; have hit4 := iter_kept hit3 hown3 hg4)
        | fail)
      go_roundw
      case rel => exact ⟨n + 1, _, rfl, by omega, by rw [← hmore.out]; exact hown4, hit4, hb4⟩
      case measure => simp only [World.iterPos, hit4]; exact hmeas.out
    · have hend : ¬ posOf (bl s) n < s.size := by
        rw [posOf_all (bl s) n (by rw [← HT.out]; omega), bl_size]
        exact Nat.lt_irrefl _
      have hnx : ∀ ty, (Instr.next (.pointer (some ⟨w2.heap.size, 0, none⟩)) true ty).run Try.prog wr = _ := fun ty => Go.Lib.run_next_end_at wr w2.heap.size s _ ty hit hend
      clear hend
      rw [List.take_of_length_le (by rw [runesOf_length, ← HT.out]; omega)] at hown
      go_wp2
      go_ret
      exact ⟨_, rfl, hown, hbw⟩

end Go.Proofs.Ytgalppnpmfpdbaa

namespace Go.Proofs.Ytgalppnpmfpdbaa
open Go.RowKit

set_option maxHeartbeats 1000000 in
set_option maxRecDepth 100000 in
theorem hof_c (s : ByteArray) (w : World) (hm : s.size ≤ 1000000) :
    Calls Try.prog 52 #[.string s] w fun e w' => e = .returned (.int .u64 (hashN (runesOf (toks (bl s))) : Int)) ∧ Below w.heap.size w w' := by
  have C := of_c s w (by omega)
  have hlen : (runesOf (toks (bl s))).length ≤ 1000000 := by rw [runesOf_length]; have := toks_length (bl s); rw [← bl_size] at this; omega
  have hrl := rune_lt (bl s)
  generalize runesOf (toks (bl s)) = rs at *
  have C := Go.Lib.hid C
  have hlen := Go.Lib.hid hlen
  have hrl := Go.Lib.hid hrl
  have hf := Go.Lib.hid fold_nil
  go_enter Try.func52, Try.ntmps52
  go_wp2_with fail
  refine C.out.mono ?_
  rintro e w1 ⟨v1, rfl, h1, hb⟩
  obtain ⟨a, c, rfl, -⟩ := h1.rv.form
  have e0 : (zi .i32 rs).length = rs.length := zi_length ..
  rw [e0] at h1 ⊢
  have HR := Go.Lib.hid h1.rv
  clear h1 e0 C
  go_wp2_with fail
  go_loop [3, 9] (fun hv iv => ∃ k : Nat, k ≤ rs.length ∧ iv = .int .i64 (k : Int) ∧ hv = .int .u64 (foldH (rs.take k) : Int)) (fun _ iv => rs.length - (intOf iv).toNat)
  case atStart => exact ⟨0, by omega, rfl, by rw [hf.out]; rfl⟩
  case round =>
    obtain ⟨k, hk, rfl, rfl⟩ := hrel
    by_cases hlt : k < rs.length
    · obtain ⟨b, o, rfl, hc, -⟩ := HR.out.at k (by rw [zi_length]; exact hlt)
      rw [zi_at _ _ _ hlt] at hc
      have hs := foldH_snoc (rs.take k) rs[k]
      rw [← List.take_succ_eq_append_getElem hlt] at hs
      have Hs := Go.Lib.hid hs
      have Hlt := Go.Lib.hid (foldH_lt (rs.take k))
      clear hs
      generalize foldH (rs.take k) = h at *
      have Hr := Go.Lib.hid (hrl.out rs[k] (List.getElem_mem hlt))
      generalize rs[k] = r at *
      have hk6 : k ≤ 1000000 := by have := hlen.out; omega
      have Hst := Go.Lib.hid (mix_step h r Hlt.out Hr.out)
      go_wp2_with fail
      go_round
      case rel => exact ⟨k + 1, by omega, by go_num, by rw [Hst.out, Hs.out]⟩
      case measure => simp only [intOf]; omega
    · obtain rfl : k = rs.length := by omega
      rw [List.take_length]
      have Ha := Go.Lib.hid (turn_a (foldH rs) (foldH_lt rs))
      have Hb := Go.Lib.hid (turn_b (foldH rs))
      have Hc := Go.Lib.hid (turn_c (foldH rs))
      have Hh := Go.Lib.hid (show hashN rs = turnC (foldH rs) from rfl)
      generalize foldH rs = h at *
      go_wp2_with fail
      go_ret
      refine ⟨ret_int (a := bits .xor .u64 (IntKind.u64.wrap (bits .xor .u64 (h : Int) ((h : Int) / 4294967296) * 11400714819323198485)) (IntKind.u64.wrap (bits .xor .u64 (h : Int) ((h : Int) / 4294967296) * 11400714819323198485) / 536870912)) ?_, hb⟩
      rw [Ha.out, Hb.out, Hc.out, Hh.out]

/-- A text's hash. -/
def hashS (s : ByteArray) : Nat := hashN (runesOf (toks (bl s)))
theorem hashS_lt (s : ByteArray) : hashS s < 18446744073709551616 := by have := hashN_lt (runesOf (toks (bl s))); rw [two64_lit] at this; exact this
theorem hof_k (s : ByteArray) (n : Nat) (h : hashS s = n) (w : World) (hm : s.size ≤ 1000000) : Calls Try.prog 52 #[.string s] w fun e w' => e = .returned (.int .u64 (n : Int)) ∧ Below w.heap.size w w' := by subst h; exact hof_c s w hm
theorem rhash_k (s : ByteArray) (n : Nat) (h : hashS s = n) (w : World) (hm : s.size ≤ 1000000) : Calls Try.prog 26 #[.string s] w fun e w' => e = .returned (.int .u64 (n : Int)) ∧ Below w.heap.size w w' := by subst h; exact rhash_c s w hm

end Go.Proofs.Ytgalppnpmfpdbaa

namespace Go.Proofs.Ytgalppnpmfpdbaa
open Go.RowKit

def mayT (x : RecT) : Bool := mayRec x.1 x.2.1 x.2.2.1 x.2.2.2.1 x.2.2.2.2
/-- What may be is short. -/
theorem mayT_short {x : RecT} (h : mayT x = true) : x.1.size ≤ 16 ∧ x.2.2.2.2.size ≤ 24 := by
  obtain ⟨key, gone, k, n, s⟩ := x
  have hz : ∀ s : ByteArray, s.toList.isEmpty = true → s.size ≤ 24 := by
    intro s hs
    rw [ByteArray.toList_eq, List.isEmpty_iff] at hs
    have : s.size = 0 := by
      show s.data.size = 0
      rw [← Array.length_toList, hs]; rfl
    omega
  unfold mayT mayRec mayK at h
  simp only [Bool.and_eq_true, decide_eq_true_eq] at h
  refine ⟨h.1.2, ?_⟩
  show s.size ≤ 24
  have h2 := h.2
  cases gone with
  | true =>
    simp only [if_true, Bool.and_eq_true] at h2
    exact hz _ h2.2
  | false =>
    simp only [Bool.false_eq_true, if_false] at h2
    unfold mayR at h2
    split at h2
    · exact hz _ h2
    · split at h2
      · simp only [Bool.and_eq_true, decide_eq_true_eq] at h2
        exact h2.1.2
      · cases h2

end Go.Proofs.Ytgalppnpmfpdbaa

namespace Go.Proofs.Ytgalppnpmfpdbaa

def hR (x : RecT) : Nat := hashS x.1
def esL (L : List RecT) : List EnT := L.zipIdx.map fun p => (hR p.1, (p.2 : Int))
theorem esL_len (L : List RecT) : (esL L).length = L.length := by simp [esL]
theorem esL_at {L : List RecT} {i : Nat} (h : i < L.length) : (esL L)[i]'(by rw [esL_len]; exact h) = (hR L[i], (i : Int)) := by simp [esL]
theorem esL_fst (L : List RecT) : (esL L).map Prod.fst = L.map hR := by
  apply List.ext_getElem
  · simp [esL_len]
  · intro i h1 h2
    have : i < L.length := by simpa [esL_len] using h1
    rw [List.getElem_map, List.getElem_map, esL_at this]
theorem esL_snoc (L : List RecT) (x : RecT) : esL (L ++ [x]) = esL L ++ [(hR x, (L.length : Int))] := by simp [esL, List.zipIdx_append]
theorem esL_set {L : List RecT} {i : Nat} (h : i < L.length) {x : RecT} (hx : hR x = hR L[i]) : esL (L.set i x) = esL L := by
  apply List.ext_getElem
  · simp [esL_len]
  · intro j h1 h2
    have hj : j < L.length := by simpa [esL_len] using h1
    rw [esL_at (by rw [List.length_set]; exact hj), esL_at hj, List.getElem_set]
    split
    · rename_i e; subst e; rw [hx]
    · rfl

/-! ### What is found of a key. -/
def KeysOk (L : List RecT) : Prop := (L.map keyR).Nodup
theorem keyR_eq {x : RecT} {k : ByteArray} : keyR x = k.toList ↔ x.1 = k := by
  unfold keyR
  rw [ByteArray.toList_eq, ByteArray.toList_eq]
  exact ⟨fun h => ByteArray.ext (Array.toList_inj.1 h), fun h => by rw [h]⟩
theorem find_iff {L : List RecT} (h : KeysOk L) (k : List UInt8) (x : RecT) : findK keyR L k = some x ↔ x ∈ L ∧ keyR x = k := by
  induction L with
  | nil => simp [findK]
  | cons y t ih =>
    have hn := List.nodup_cons.1 (by simpa [KeysOk] using h : (keyR y :: t.map keyR).Nodup)
    have ih := ih hn.2
    unfold findK at ih ⊢
    rw [List.find?_cons]
    by_cases hy : keyR y = k
    · simp only [hy, decide_true, Option.some.injEq, List.mem_cons]
      constructor
      · rintro rfl; exact ⟨.inl rfl, hy⟩
      · rintro ⟨rfl | hx, hk⟩
        · rfl
        · exact absurd (List.mem_map.2 ⟨x, hx, hk.trans hy.symm⟩) hn.1
    · simp only [hy, decide_false, ih, List.mem_cons]
      constructor
      · rintro ⟨h1, h2⟩; exact ⟨.inr h1, h2⟩
      · rintro ⟨rfl | h1, h2⟩
        · exact absurd h2 hy
        · exact ⟨h1, h2⟩
theorem find_none {L : List RecT} (k : List UInt8) : findK keyR L k = none ↔ ∀ x ∈ L, keyR x ≠ k := by
  unfold findK
  rw [List.find?_eq_none]
  simp
theorem opt_ext {α : Type} {a b : Option α} (h : ∀ x, a = some x ↔ b = some x) : a = b := by
  cases a with
  | none => cases b with
    | none => rfl
    | some y => exact ((h y).2 rfl)
  | some x => exact ((h x).1 rfl).symm
theorem find_congr {L M : List RecT} (hL : KeysOk L) (hM : KeysOk M) (h : ∀ x, x ∈ L ↔ x ∈ M) (k : List UInt8) : findK keyR L k = findK keyR M k :=
  opt_ext fun x => by rw [find_iff hL, find_iff hM, h]
theorem KeysOk.rev {L : List RecT} (h : KeysOk L) : KeysOk L.reverse := by
  unfold KeysOk at *
  rw [List.map_reverse]
  exact List.pairwise_reverse.2 (h.imp fun hn e => hn e.symm)
theorem KeysOk.perm {L M : List RecT} (h : KeysOk L) (g : L.Perm M) : KeysOk M := (g.map keyR).nodup_iff.1 h
theorem KeysOk.nodup {L : List RecT} (h : KeysOk L) : L.Nodup := (List.pairwise_map.1 h).imp fun hn e => hn (by rw [e])
theorem rising_keys {L : List RecT} (h : Rising keyR Go.Op.bytesLess L) : KeysOk L := by
  unfold KeysOk
  exact List.pairwise_map.2 (h.imp fun hl e => by rw [e, ordR.irr] at hl; cases hl)
theorem newest_rising (L : List RecT) : Rising keyR Go.Op.bytesLess (newestR L) := newestK_rising ordR L
theorem newest_keys (L : List RecT) : KeysOk (newestR L) := rising_keys (newest_rising L)
theorem newest_find {L : List RecT} (h : KeysOk L) (k : List UInt8) : findK keyR (newestR L) k = findK keyR L k := by
  rw [newestK_find ordR]
  exact find_congr h.rev h (fun x => by simp) k
theorem newest_mem {L : List RecT} (h : KeysOk L) (x : RecT) : x ∈ newestR L ↔ x ∈ L := by
  have h1 := find_iff (newest_keys L) (keyR x) x
  have h2 := find_iff h (keyR x) x
  rw [newest_find h, h2] at h1
  simpa using h1.symm
theorem newest_perm {L : List RecT} (h : KeysOk L) : (newestR L).Perm L := (List.perm_ext_iff_of_nodup (newest_keys L).nodup h.nodup).2 (newest_mem h)
theorem newest_congr {L M : List RecT} (hL : KeysOk L) (hM : KeysOk M) (h : ∀ x, x ∈ L ↔ x ∈ M) : newestR L = newestR M :=
  rising_ext ordR _ _ (newest_rising L) (newest_rising M) fun k => by rw [newest_find hL, newest_find hM, find_congr hL hM h]
theorem newest_len {L : List RecT} (h : KeysOk L) : (newestR L).length = L.length := (newest_perm h).length_eq

/-! ### One record more, or in place of another one. -/
theorem keys_set {L : List RecT} {i : Nat} (h : i < L.length) {x : RecT} (hx : keyR x = keyR L[i]) : (L.set i x).map keyR = L.map keyR := by
  apply List.ext_getElem
  · simp
  · intro j h1 h2
    rw [List.getElem_map, List.getElem_map, List.getElem_set]
    split
    · rename_i e; subst e; exact hx
    · rfl
theorem KeysOk.set {L : List RecT} (hL : KeysOk L) {i : Nat} (h : i < L.length) {x : RecT} (hx : keyR x = keyR L[i]) : KeysOk (L.set i x) := by
  unfold KeysOk
  rw [keys_set h hx]
  exact hL
theorem KeysOk.snoc {L : List RecT} (hL : KeysOk L) {x : RecT} (hx : ∀ y ∈ L, keyR y ≠ keyR x) : KeysOk (L ++ [x]) := by
  unfold KeysOk at *
  rw [List.map_append]
  refine List.nodup_append.2 ⟨hL, by simp, ?_⟩
  intro a ha b hb
  obtain ⟨y, hy, rfl⟩ := List.mem_map.1 ha
  simp only [List.map_cons, List.map_nil, List.mem_singleton] at hb
  subst hb
  exact hx y hy
theorem newest_snoc (L : List RecT) (x : RecT) : newestR (L ++ [x]) = setR (newestR L) x := by
  unfold newestR newestK
  rw [List.foldl_append]
  rfl
theorem mem_set_keys {L : List RecT} (hL : KeysOk L) {i : Nat} (h : i < L.length) {x : RecT} (hx : keyR x = keyR L[i]) (y : RecT) : y ∈ L.set i x ↔ y = x ∨ (y ∈ L ∧ keyR y ≠ keyR x) := by
  constructor
  · intro hy
    by_cases hk : keyR y = keyR x
    · left
      have h1 := find_iff (hL.set h hx) (keyR x) y
      have h2 := find_iff (hL.set h hx) (keyR x) x
      have h3 : x ∈ L.set i x := List.mem_set h x
      have e1 := h1.2 ⟨hy, hk⟩
      have e2 := h2.2 ⟨h3, rfl⟩
      rw [e1] at e2
      exact Option.some.inj e2
    · right
      rcases List.mem_or_eq_of_mem_set hy with g | g
      · exact ⟨g, hk⟩
      · exact absurd (by rw [g]) hk
  · rintro (rfl | ⟨hy, hk⟩)
    · exact List.mem_set h y
    · obtain ⟨j, hj, rfl⟩ := List.getElem_of_mem hy
      have hne : i ≠ j := by rintro rfl; exact hk hx.symm
      have : (L.set i x)[j]'(by rw [List.length_set]; exact hj) = L[j] := by rw [List.getElem_set, if_neg hne]
      rw [← this]
      exact List.getElem_mem _
theorem newest_set {L : List RecT} (hL : KeysOk L) {i : Nat} (h : i < L.length) {x : RecT} (hx : keyR x = keyR L[i]) : newestR (L.set i x) = setR (newestR L) x := by
  refine rising_ext ordR _ _ (newest_rising _) (setGo_rising ordR x _ (newest_rising L)) fun k => ?_
  rw [newest_find (hL.set h hx), setGo_find ordR x k _ (newest_rising L), newest_find hL]
  refine opt_ext fun y => ?_
  rw [find_iff (hL.set h hx), mem_set_keys hL h hx]
  by_cases hk : keyR x = k
  · rw [if_pos hk]
    subst hk
    constructor
    · rintro ⟨rfl | ⟨-, g⟩, e⟩
      · rfl
      · exact absurd e g
    · intro e
      cases e
      exact ⟨.inl rfl, rfl⟩
  · rw [if_neg hk, find_iff hL]
    constructor
    · rintro ⟨rfl | ⟨g, -⟩, e⟩
      · exact absurd e hk
      · exact ⟨g, e⟩
    · rintro ⟨g, e⟩
      exact ⟨.inr ⟨g, fun h => hk (h.symm.trans e)⟩, e⟩

/-! ### Room, reads. -/
def roomR (L : List RecT) (k : ByteArray) : Bool := (findK keyR L k.toList).isSome || roomB (L.map hR ++ [hashS k])
def readsR (L : List RecT) (k : ByteArray) : Nat := L.countP fun x => nearN (hashS k) (hR x)
theorem roomR_newest {L : List RecT} (h : KeysOk L) (k : ByteArray) : roomR (newestR L) k = roomR L k := by
  unfold roomR
  rw [newest_find h, room_perm (((newest_perm h).map hR).append_right _)]
theorem readsR_newest {L : List RecT} (h : KeysOk L) (k : ByteArray) : readsR (newestR L) k = readsR L k := (newest_perm h).countP_eq _
theorem reads_len (L : List RecT) (k : ByteArray) : ((esL L).filter fun e => nearN (hashS k) e.1).length = readsR L k := by
  rw [← List.countP_eq_length_filter]
  unfold readsR
  have e : (esL L).countP (fun e => nearN (hashS k) e.1) = ((esL L).map Prod.fst).countP (nearN (hashS k)) := by rw [List.countP_map]; rfl
  rw [e, esL_fst, List.countP_map]
  rfl
theorem near_self (a : Nat) : nearN a a = true := (near_iff a a).2 rfl
/-- The numbers that are found: those whose record is near. -/
theorem near_mem {L : List RecT} {k : ByteArray} {F : List Int} (hp : F.Perm (((esL L).filter fun e => nearN (hashS k) e.1).map Prod.snd)) (z : Int) : z ∈ F ↔ ∃ i, ∃ h : i < L.length, z = (i : Int) ∧ nearN (hashS k) (hR L[i]) = true := by
  rw [hp.mem_iff, List.mem_map]
  constructor
  · rintro ⟨e, he, rfl⟩
    obtain ⟨hm, hn⟩ := List.mem_filter.1 he
    obtain ⟨i, hi, rfl⟩ := List.getElem_of_mem hm
    have h : i < L.length := by rw [esL_len] at hi; exact hi
    rw [esL_at h] at hn ⊢
    exact ⟨i, h, rfl, hn⟩
  · rintro ⟨i, h, rfl, hn⟩
    refine ⟨(hR L[i], (i : Int)), List.mem_filter.2 ⟨?_, hn⟩, rfl⟩
    rw [← esL_at h]
    exact List.getElem_mem _
/-- A put: the record of its key is x now. -/
def putL (L : List RecT) (x : RecT) : List RecT := match L.findIdx? fun y => decide (keyR y = keyR x) with
  | some i => L.set i x
  | none => L ++ [x]
theorem putL_in {L : List RecT} (hL : KeysOk L) {i : Nat} (h : i < L.length) {x : RecT} (hx : keyR L[i] = keyR x) : putL L x = L.set i x := by
  unfold putL
  have : L.findIdx? (fun y => decide (keyR y = keyR x)) = some i := by
    rw [List.findIdx?_eq_some_iff_getElem]
    refine ⟨h, by simpa using hx, fun j hj => ?_⟩
    simp only [decide_eq_true_eq]
    intro e
    have hn := List.pairwise_map.1 hL
    have := List.pairwise_iff_getElem.1 hn j i (by omega) h hj
    exact this (e.trans hx.symm)
  rw [this]
theorem putL_new {L : List RecT} {x : RecT} (hx : ∀ y ∈ L, keyR y ≠ keyR x) : putL L x = L ++ [x] := by
  unfold putL
  have : L.findIdx? (fun y => decide (keyR y = keyR x)) = none := by
    rw [List.findIdx?_eq_none_iff]
    intro y hy
    simpa using hx y hy
  rw [this]
theorem find_cases {L : List RecT} (k : List UInt8) : (∃ i, ∃ h : i < L.length, keyR L[i] = k) ∨ ∀ y ∈ L, keyR y ≠ k := by
  by_cases h : ∃ y ∈ L, keyR y = k
  · obtain ⟨y, hy, e⟩ := h
    obtain ⟨i, hi, rfl⟩ := List.getElem_of_mem hy
    exact .inl ⟨i, hi, e⟩
  · exact .inr fun y hy e => h ⟨y, hy, e⟩
theorem KeysOk.put {L : List RecT} (hL : KeysOk L) (x : RecT) : KeysOk (putL L x) := by
  rcases find_cases (L := L) (keyR x) with ⟨i, h, e⟩ | h
  · rw [putL_in hL h e]; exact hL.set h e.symm
  · rw [putL_new h]; exact hL.snoc h
theorem newest_put {L : List RecT} (hL : KeysOk L) (x : RecT) : newestR (putL L x) = setR (newestR L) x := by
  rcases find_cases (L := L) (keyR x) with ⟨i, h, e⟩ | h
  · rw [putL_in hL h e]; exact newest_set hL h e.symm
  · rw [putL_new h]; exact newest_snoc L x
theorem find_put {L : List RecT} (hL : KeysOk L) (x : RecT) (k : List UInt8) : findK keyR (putL L x) k = if keyR x = k then some x else findK keyR L k := by
  rw [← newest_find (hL.put x), newest_put hL, setGo_find ordR x k _ (newest_rising L), newest_find hL]

end Go.Proofs.Ytgalppnpmfpdbaa
