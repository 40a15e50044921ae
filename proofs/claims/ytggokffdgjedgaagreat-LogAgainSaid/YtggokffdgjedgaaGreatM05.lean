/-
  The contract of runes.Of.
  The contracts of hash.Of, First, Tag, Other.
  Which record may be, of a record as one letter.
  Mathematics of a log (of no code): records of different keys in the order in which they came, their entries, the same ones by rising keys.
  Slices of structs of whatever kind: how one lies in cells is a parameter. What one reads as, what the call itself makes; appended to, cut, stored into.
  Stage 17: how entries, hashes, numbers lie; the reference's Near, Room.
  Of the blocks that there were all but one are as they were.
  Stage 17: a *cuckoo.Dir in memory: eight buckets of four slots, three cells each. Plain facts; the small contracts (may, pair, New).
-/
import Derived.Test.YtggokffdgjedgaaGreatM04
import Derived.Test.YtggokffdgjedgaaGreatM01
import Derived.Test.YtggokffdgjedgaaGreatM03
import Derived.ArgAppend
import Derived.Deep.Upon
import Derived.Deep.MidRow
import Derived.LoopTactic
namespace Go.Proofs.YtggokffdgjedgaaGreat
open Go.RowKit

set_option maxRecDepth 100000 in
theorem of_c (s : ByteArray) (w : World) (hm : s.size ≤ 1000000000) :
    Calls Tryz.prog 55 #[.string s] w fun e w' => ∃ v, e = .returned v ∧ OwnV 21 w' w.heap.size v (zi .i32 (runesOf (toks (bl s)))) ∧ Below w.heap.size w w' := by
  have hl1 := toks_length (bl s)
  rw [← bl_size] at hl1
  have C := Go.Lib.hid (count_c s w (by omega))
  obtain ⟨T, hT⟩ : ∃ T, T = (toks (bl s)).length := ⟨_, rfl⟩
  rw [← hT] at hl1 C
  have HT := Go.Lib.hid hT; clear hT
  go_enter Tryz.func55, Tryz.ntmps55
  go_wp2_with (first
    | (refine C.out.mono ?_; rintro e w1 ⟨rfl, hb1⟩)
    | (with_reducible show wpList _ _ _ (⟨some 8, _, _, _, _, _⟩ :: _) _ _; go_loud (refine wpList_make_none rfl (.const (.int .i64 0)) (.tmp 7) 83 rfl 21 Tryz.underlying83 (.int .i32 0) 4 info32 .i64 .i64 _ T rfl rfl rfl (by omega) (by omega) ?_); intro v2 w2 hown2 hg2; have hb2 := hb1.grown hg2 hb1.size (by simp))
    | fail)
  go_loopw [3] (fun u wr => ∃ (n : Nat) (v : Value), v = u ∧ n ≤ T ∧ OwnV 21 wr w.heap.size v (zi .i32 ((runesOf (toks (bl s))).take n)) ∧ wr.heap[w2.heap.size]? = some (.stringIter s (posOf (bl s) n)) ∧ Below w.heap.size w wr) (fun _ wr => s.size - wr.iterPos w2.heap.size)
  case atStart => exact ⟨0, _, rfl, by omega, (hown2.mono hb1.size).alloc _, World.iter_heap w2 s 0, hb2.alloc hb2.size _⟩
  case round =>
    obtain ⟨n, v, rfl, hn, hown, hit, hbw⟩ := hrel
    by_cases hlt : n < T
    · have hT' : n < (toks (bl s)).length := by rw [← HT.out]; exact hlt
      obtain ⟨p1, p2, p3, p4⟩ := next_some s n hT'
      have hnx : ∀ ty, (Instr.next (.pointer (some ⟨w2.heap.size, 0, none⟩)) true ty).run Tryz.prog wr = _ := fun ty => Go.Lib.run_next_any_at wr w2.heap.size s _ ty hit p1
      rw [p3] at hnx
      rw [p2] at hnx
      rw [← p4] at hnx
      have hit2 := Go.Lib.iterAt_heap wr w2.heap.size s _ (posOf (bl s) (n + 1)) hit
      have hbw2 := below_iter hbw hb2.size s (posOf (bl s) (n + 1))
      have hown2 := hown.other (w' := wr.iterAt w2.heap.size s (posOf (bl s) (n + 1))) w2.heap.size _ hit (fun _ _ _ h => by cases h) (fun j hj => Go.Lib.iterAt_other wr w2.heap.size j s _ hj)
      have hmore := Go.Lib.hid (zi_more .i32 (toks (bl s)) n hT')
      have hmeas : Hid (s.size - posOf (bl s) (n + 1) < s.size - wr.iterPos w2.heap.size) := by
        have := posOf_lt_succ (bl s) n hT'
        simp only [Hid, World.iterPos, hit]
        omega
      have hnl : ((runesOf (toks (bl s))).take n).length = n := by rw [List.length_take, runesOf_length]; omega
      have Hnl := Go.Lib.hid hnl; clear hnl
      clear p1 p2 p3 p4 hit hbw hown
      generalize (toks (bl s))[n].1 = r at hnx hmore
      generalize wr.iterAt w2.heap.size s (posOf (bl s) (n + 1)) = wi at hnx hit2 hbw2 hown2
      have hown3 := hown2.alloc (.cells #[.int .i32 (r : Int)] 21)
      have hrv := RV.one wi 21 (.int .i32 (r : Int))
      have hbw3 := hbw2.alloc hbw2.size (.cells #[.int .i32 (r : Int)] 21)
      have hit3 := iter_alloc hit2 (.cells #[.int .i32 (r : Int)] 21)
      have hone : ∀ u ∈ [Value.int .i32 (r : Int)], u.oneCell' = true := by intro u hu; obtain rfl := List.mem_singleton.1 hu; rfl
      have hln1 : ((zi .i32 ((runesOf (toks (bl s))).take n)).length + [Value.int .i32 (r : Int)].length) * 4 ≤ 140737488355328 := by rw [zi_length, Hnl.out]; simp only [List.length_cons, List.length_nil]; omega
      have hln2 : (zi .i32 ((runesOf (toks (bl s))).take n)).length + [Value.int .i32 (r : Int)].length ≤ 140737488355328 := by omega
      go_wp2_with (first
        | (with_reducible show wpList _ _ _ (⟨some 17, _, _, _, _, _⟩ :: _) _ _; refine wpList_append_RV rfl (.tmp 14) (.tmp 16) 83 rfl w.heap.size 21 Tryz.underlying83 (.int .i32 0) 4 rfl info32 v (.slice (some ⟨wi.heap.size, 0, none⟩) 1 1) (zi .i32 ((runesOf (toks (bl s))).take n)) [.int .i32 (r : Int)] rfl rfl hown3 hrv hone hln1 hln2 hbw3.size ?_; intro v4 w4 hown4 hg4; have hb4 := hbw3.grown hg4 hbw3.size hown2.row; have hit4 := iter_kept hit3 hown3 hg4)
        | fail)
      go_roundw
      case rel => exact ⟨n + 1, _, rfl, by omega, by rw [← hmore.out]; exact hown4, hit4, hb4⟩
      case measure => simp only [World.iterPos, hit4]; exact hmeas.out
    · have hend : ¬ posOf (bl s) n < s.size := by
        rw [posOf_all (bl s) n (by rw [← HT.out]; omega), bl_size]
        exact Nat.lt_irrefl _
      have hnx : ∀ ty, (Instr.next (.pointer (some ⟨w2.heap.size, 0, none⟩)) true ty).run Tryz.prog wr = _ := fun ty => Go.Lib.run_next_end_at wr w2.heap.size s _ ty hit hend
      clear hend
      rw [List.take_of_length_le (by rw [runesOf_length, ← HT.out]; omega)] at hown
      go_wp2
      go_ret
      exact ⟨_, rfl, hown, hbw⟩

end Go.Proofs.YtggokffdgjedgaaGreat

namespace Go.Proofs.YtggokffdgjedgaaGreat
open Go.RowKit

set_option maxHeartbeats 1000000 in
set_option maxRecDepth 100000 in
theorem hof_c (s : ByteArray) (w : World) (hm : s.size ≤ 1000000) :
    Calls Tryz.prog 33 #[.string s] w fun e w' => e = .returned (.int .u64 (hashN (runesOf (toks (bl s))) : Int)) ∧ Below w.heap.size w w' := by
  have C := of_c s w (by omega)
  have hlen : (runesOf (toks (bl s))).length ≤ 1000000 := by rw [runesOf_length]; have := toks_length (bl s); rw [← bl_size] at this; omega
  have hrl := rune_lt (bl s)
  generalize runesOf (toks (bl s)) = rs at *
  have C := Go.Lib.hid C
  have hlen := Go.Lib.hid hlen
  have hrl := Go.Lib.hid hrl
  have hf := Go.Lib.hid fold_nil
  go_enter Tryz.func33, Tryz.ntmps33
  go_wp2_with fail
  refine C.out.mono ?_
  rintro e w1 ⟨v1, rfl, h1, hb⟩
  obtain ⟨a, c, rfl, -⟩ := h1.rv.form
  have e0 : (zi .i32 rs).length = rs.length := zi_length ..
  rw [e0] at h1 ⊢
  have HR := Go.Lib.hid h1.rv
  clear h1 e0 C
  go_wp2_with fail
  go_loop [3, 9] (fun hv iv => ∃ k : Nat, k ≤ rs.length ∧ iv = .int .i64 (k : Int) ∧ hv = .int .u64 (foldH (rs.take k) : Int)) (fun _ iv => rs.length - (intOf iv).toNat)
  case atStart => exact ⟨0, by omega, rfl, by rw [hf.out]; rfl⟩
  case round =>
    obtain ⟨k, hk, rfl, rfl⟩ := hrel
    by_cases hlt : k < rs.length
    · obtain ⟨b, o, rfl, hc, -⟩ := HR.out.at k (by rw [zi_length]; exact hlt)
      rw [zi_at _ _ _ hlt] at hc
      have hs := foldH_snoc (rs.take k) rs[k]
      rw [← List.take_succ_eq_append_getElem hlt] at hs
      have Hs := Go.Lib.hid hs
      have Hlt := Go.Lib.hid (foldH_lt (rs.take k))
      clear hs
      generalize foldH (rs.take k) = h at *
      have Hr := Go.Lib.hid (hrl.out rs[k] (List.getElem_mem hlt))
      generalize rs[k] = r at *
      have hk6 : k ≤ 1000000 := by have := hlen.out; omega
      have Hst := Go.Lib.hid (mix_step h r Hlt.out Hr.out)
      go_wp2_with fail
      go_round
      case rel => exact ⟨k + 1, by omega, by go_num, by rw [Hst.out, Hs.out]⟩
      case measure => simp only [intOf]; omega
    · obtain rfl : k = rs.length := by omega
      rw [List.take_length]
      have Ha := Go.Lib.hid (turn_a (foldH rs) (foldH_lt rs))
      have Hb := Go.Lib.hid (turn_b (foldH rs))
      have Hc := Go.Lib.hid (turn_c (foldH rs))
      have Hh := Go.Lib.hid (show hashN rs = turnC (foldH rs) from rfl)
      generalize foldH rs = h at *
      go_wp2_with fail
      go_ret
      refine ⟨ret_int (a := bits .xor .u64 (IntKind.u64.wrap (bits .xor .u64 (h : Int) ((h : Int) / 4294967296) * 11400714819323198485)) (IntKind.u64.wrap (bits .xor .u64 (h : Int) ((h : Int) / 4294967296) * 11400714819323198485) / 536870912)) ?_, hb⟩
      rw [Ha.out, Hb.out, Hc.out, Hh.out]

/-- A text's hash. -/
def hashS (s : ByteArray) : Nat := hashN (runesOf (toks (bl s)))
theorem hashS_lt (s : ByteArray) : hashS s < 18446744073709551616 := by have := hashN_lt (runesOf (toks (bl s))); rw [two64_lit] at this; exact this
theorem hof_k (s : ByteArray) (n : Nat) (h : hashS s = n) (w : World) (hm : s.size ≤ 1000000) : Calls Tryz.prog 33 #[.string s] w fun e w' => e = .returned (.int .u64 (n : Int)) ∧ Below w.heap.size w w' := by subst h; exact hof_c s w hm
theorem rhash_k (s : ByteArray) (n : Nat) (h : hashS s = n) (w : World) (hm : s.size ≤ 1000000) : Calls Tryz.prog 27 #[.string s] w fun e w' => e = .returned (.int .u64 (n : Int)) ∧ Below w.heap.size w w' := by subst h; exact rhash_c s w hm

end Go.Proofs.YtggokffdgjedgaaGreat

namespace Go.Proofs.YtggokffdgjedgaaGreat
open Go.RowKit

def mayT (x : RecT) : Bool := mayRec x.1 x.2.1 x.2.2.1 x.2.2.2.1 x.2.2.2.2
/-- What may be is short. -/
theorem mayT_short {x : RecT} (h : mayT x = true) : x.1.size ≤ 16 ∧ x.2.2.2.2.size ≤ 24 := by
  obtain ⟨key, gone, k, n, s⟩ := x
  have hz : ∀ s : ByteArray, s.toList.isEmpty = true → s.size ≤ 24 := by
    intro s hs
    rw [ByteArray.toList_eq, List.isEmpty_iff] at hs
    have : s.size = 0 := by
      show s.data.size = 0
      rw [← Array.length_toList, hs]; rfl
    omega
  unfold mayT mayRec mayK at h
  simp only [Bool.and_eq_true, decide_eq_true_eq] at h
  refine ⟨h.1.2, ?_⟩
  show s.size ≤ 24
  have h2 := h.2
  cases gone with
  | true =>
    simp only [if_true, Bool.and_eq_true] at h2
    exact hz _ h2.2
  | false =>
    simp only [Bool.false_eq_true, if_false] at h2
    unfold mayR at h2
    split at h2
    · exact hz _ h2
    · split at h2
      · simp only [Bool.and_eq_true, decide_eq_true_eq] at h2
        exact h2.1.2
      · cases h2

end Go.Proofs.YtggokffdgjedgaaGreat

namespace Go.Proofs.YtggokffdgjedgaaGreat

def hR (x : RecT) : Nat := hashS x.1
def esL (L : List RecT) : List EnT := L.zipIdx.map fun p => (hR p.1, (p.2 : Int))
theorem esL_len (L : List RecT) : (esL L).length = L.length := by simp [esL]
theorem esL_at {L : List RecT} {i : Nat} (h : i < L.length) : (esL L)[i]'(by rw [esL_len]; exact h) = (hR L[i], (i : Int)) := by simp [esL]
theorem esL_fst (L : List RecT) : (esL L).map Prod.fst = L.map hR := by
  apply List.ext_getElem
  · simp [esL_len]
  · intro i h1 h2
    have : i < L.length := by simpa [esL_len] using h1
    rw [List.getElem_map, List.getElem_map, esL_at this]
theorem esL_snoc (L : List RecT) (x : RecT) : esL (L ++ [x]) = esL L ++ [(hR x, (L.length : Int))] := by simp [esL, List.zipIdx_append]
theorem esL_set {L : List RecT} {i : Nat} (h : i < L.length) {x : RecT} (hx : hR x = hR L[i]) : esL (L.set i x) = esL L := by
  apply List.ext_getElem
  · simp [esL_len]
  · intro j h1 h2
    have hj : j < L.length := by simpa [esL_len] using h1
    rw [esL_at (by rw [List.length_set]; exact hj), esL_at hj, List.getElem_set]
    split
    · rename_i e; subst e; rw [hx]
    · rfl

/-! ### What is found of a key. -/
def KeysOk (L : List RecT) : Prop := (L.map keyR).Nodup
theorem keyR_eq {x : RecT} {k : ByteArray} : keyR x = k.toList ↔ x.1 = k := by
  unfold keyR
  rw [ByteArray.toList_eq, ByteArray.toList_eq]
  exact ⟨fun h => ByteArray.ext (Array.toList_inj.1 h), fun h => by rw [h]⟩
theorem find_iff {L : List RecT} (h : KeysOk L) (k : List UInt8) (x : RecT) : findK keyR L k = some x ↔ x ∈ L ∧ keyR x = k := by
  induction L with
  | nil => simp [findK]
  | cons y t ih =>
    have hn := List.nodup_cons.1 (by simpa [KeysOk] using h : (keyR y :: t.map keyR).Nodup)
    have ih := ih hn.2
    unfold findK at ih ⊢
    rw [List.find?_cons]
    by_cases hy : keyR y = k
    · simp only [hy, decide_true, Option.some.injEq, List.mem_cons]
      constructor
      · rintro rfl; exact ⟨.inl rfl, hy⟩
      · rintro ⟨rfl | hx, hk⟩
        · rfl
        · exact absurd (List.mem_map.2 ⟨x, hx, hk.trans hy.symm⟩) hn.1
    · simp only [hy, decide_false, ih, List.mem_cons]
      constructor
      · rintro ⟨h1, h2⟩; exact ⟨.inr h1, h2⟩
      · rintro ⟨rfl | h1, h2⟩
        · exact absurd h2 hy
        · exact ⟨h1, h2⟩
theorem find_none {L : List RecT} (k : List UInt8) : findK keyR L k = none ↔ ∀ x ∈ L, keyR x ≠ k := by
  unfold findK
  rw [List.find?_eq_none]
  simp
theorem opt_ext {α : Type} {a b : Option α} (h : ∀ x, a = some x ↔ b = some x) : a = b := by
  cases a with
  | none => cases b with
    | none => rfl
    | some y => exact ((h y).2 rfl)
  | some x => exact ((h x).1 rfl).symm
theorem find_congr {L M : List RecT} (hL : KeysOk L) (hM : KeysOk M) (h : ∀ x, x ∈ L ↔ x ∈ M) (k : List UInt8) : findK keyR L k = findK keyR M k :=
  opt_ext fun x => by rw [find_iff hL, find_iff hM, h]
theorem KeysOk.rev {L : List RecT} (h : KeysOk L) : KeysOk L.reverse := by
  unfold KeysOk at *
  rw [List.map_reverse]
  exact List.pairwise_reverse.2 (h.imp fun hn e => hn e.symm)
theorem KeysOk.perm {L M : List RecT} (h : KeysOk L) (g : L.Perm M) : KeysOk M := (g.map keyR).nodup_iff.1 h
theorem KeysOk.nodup {L : List RecT} (h : KeysOk L) : L.Nodup := (List.pairwise_map.1 h).imp fun hn e => hn (by rw [e])
theorem rising_keys {L : List RecT} (h : Rising keyR Go.Op.bytesLess L) : KeysOk L := by
  unfold KeysOk
  exact List.pairwise_map.2 (h.imp fun hl e => by rw [e, ordR.irr] at hl; cases hl)
theorem newest_rising (L : List RecT) : Rising keyR Go.Op.bytesLess (newestR L) := newestK_rising ordR L
theorem newest_keys (L : List RecT) : KeysOk (newestR L) := rising_keys (newest_rising L)
theorem newest_find {L : List RecT} (h : KeysOk L) (k : List UInt8) : findK keyR (newestR L) k = findK keyR L k := by
  rw [newestK_find ordR]
  exact find_congr h.rev h (fun x => by simp) k
theorem newest_mem {L : List RecT} (h : KeysOk L) (x : RecT) : x ∈ newestR L ↔ x ∈ L := by
  have h1 := find_iff (newest_keys L) (keyR x) x
  have h2 := find_iff h (keyR x) x
  rw [newest_find h, h2] at h1
  simpa using h1.symm
theorem newest_perm {L : List RecT} (h : KeysOk L) : (newestR L).Perm L := (List.perm_ext_iff_of_nodup (newest_keys L).nodup h.nodup).2 (newest_mem h)
theorem newest_congr {L M : List RecT} (hL : KeysOk L) (hM : KeysOk M) (h : ∀ x, x ∈ L ↔ x ∈ M) : newestR L = newestR M :=
  rising_ext ordR _ _ (newest_rising L) (newest_rising M) fun k => by rw [newest_find hL, newest_find hM, find_congr hL hM h]
theorem newest_len {L : List RecT} (h : KeysOk L) : (newestR L).length = L.length := (newest_perm h).length_eq

/-! ### One record more, or in place of another one. -/
theorem keys_set {L : List RecT} {i : Nat} (h : i < L.length) {x : RecT} (hx : keyR x = keyR L[i]) : (L.set i x).map keyR = L.map keyR := by
  apply List.ext_getElem
  · simp
  · intro j h1 h2
    rw [List.getElem_map, List.getElem_map, List.getElem_set]
    split
    · rename_i e; subst e; exact hx
    · rfl
theorem KeysOk.set {L : List RecT} (hL : KeysOk L) {i : Nat} (h : i < L.length) {x : RecT} (hx : keyR x = keyR L[i]) : KeysOk (L.set i x) := by
  unfold KeysOk
  rw [keys_set h hx]
  exact hL
theorem KeysOk.snoc {L : List RecT} (hL : KeysOk L) {x : RecT} (hx : ∀ y ∈ L, keyR y ≠ keyR x) : KeysOk (L ++ [x]) := by
  unfold KeysOk at *
  rw [List.map_append]
  refine List.nodup_append.2 ⟨hL, by simp, ?_⟩
  intro a ha b hb
  obtain ⟨y, hy, rfl⟩ := List.mem_map.1 ha
  simp only [List.map_cons, List.map_nil, List.mem_singleton] at hb
  subst hb
  exact hx y hy
theorem newest_snoc (L : List RecT) (x : RecT) : newestR (L ++ [x]) = setR (newestR L) x := by
  unfold newestR newestK
  rw [List.foldl_append]
  rfl
theorem mem_set_keys {L : List RecT} (hL : KeysOk L) {i : Nat} (h : i < L.length) {x : RecT} (hx : keyR x = keyR L[i]) (y : RecT) : y ∈ L.set i x ↔ y = x ∨ (y ∈ L ∧ keyR y ≠ keyR x) := by
  constructor
  · intro hy
    by_cases hk : keyR y = keyR x
    · left
      have h1 := find_iff (hL.set h hx) (keyR x) y
      have h2 := find_iff (hL.set h hx) (keyR x) x
      have h3 : x ∈ L.set i x := List.mem_set h x
      have e1 := h1.2 ⟨hy, hk⟩
      have e2 := h2.2 ⟨h3, rfl⟩
      rw [e1] at e2
      exact Option.some.inj e2
    · right
      rcases List.mem_or_eq_of_mem_set hy with g | g
      · exact ⟨g, hk⟩
      · exact absurd (by rw [g]) hk
  · rintro (rfl | ⟨hy, hk⟩)
    · exact List.mem_set h y
    · obtain ⟨j, hj, rfl⟩ := List.getElem_of_mem hy
      have hne : i ≠ j := by rintro rfl; exact hk hx.symm
      have : (L.set i x)[j]'(by rw [List.length_set]; exact hj) = L[j] := by rw [List.getElem_set, if_neg hne]
      rw [← this]
      exact List.getElem_mem _
theorem newest_set {L : List RecT} (hL : KeysOk L) {i : Nat} (h : i < L.length) {x : RecT} (hx : keyR x = keyR L[i]) : newestR (L.set i x) = setR (newestR L) x := by
  refine rising_ext ordR _ _ (newest_rising _) (setGo_rising ordR x _ (newest_rising L)) fun k => ?_
  rw [newest_find (hL.set h hx), setGo_find ordR x k _ (newest_rising L), newest_find hL]
  refine opt_ext fun y => ?_
  rw [find_iff (hL.set h hx), mem_set_keys hL h hx]
  by_cases hk : keyR x = k
  · rw [if_pos hk]
    subst hk
    constructor
    · rintro ⟨rfl | ⟨-, g⟩, e⟩
      · rfl
      · exact absurd e g
    · intro e
      cases e
      exact ⟨.inl rfl, rfl⟩
  · rw [if_neg hk, find_iff hL]
    constructor
    · rintro ⟨rfl | ⟨g, -⟩, e⟩
      · exact absurd e hk
      · exact ⟨g, e⟩
    · rintro ⟨g, e⟩
      exact ⟨.inr ⟨g, fun h => hk (h.symm.trans e)⟩, e⟩

/-! ### Room, reads. -/
def roomR (L : List RecT) (k : ByteArray) : Bool := (findK keyR L k.toList).isSome || roomB (L.map hR ++ [hashS k])
def readsR (L : List RecT) (k : ByteArray) : Nat := L.countP fun x => nearN (hashS k) (hR x)
theorem roomR_newest {L : List RecT} (h : KeysOk L) (k : ByteArray) : roomR (newestR L) k = roomR L k := by
  unfold roomR
  rw [newest_find h, room_perm (((newest_perm h).map hR).append_right _)]
theorem readsR_newest {L : List RecT} (h : KeysOk L) (k : ByteArray) : readsR (newestR L) k = readsR L k := (newest_perm h).countP_eq _
theorem reads_len (L : List RecT) (k : ByteArray) : ((esL L).filter fun e => nearN (hashS k) e.1).length = readsR L k := by
  rw [← List.countP_eq_length_filter]
  unfold readsR
  have e : (esL L).countP (fun e => nearN (hashS k) e.1) = ((esL L).map Prod.fst).countP (nearN (hashS k)) := by rw [List.countP_map]; rfl
  rw [e, esL_fst, List.countP_map]
  rfl
theorem near_self (a : Nat) : nearN a a = true := (near_iff a a).2 rfl
/-- The numbers that are found: those whose record is near. -/
theorem near_mem {L : List RecT} {k : ByteArray} {F : List Int} (hp : F.Perm (((esL L).filter fun e => nearN (hashS k) e.1).map Prod.snd)) (z : Int) : z ∈ F ↔ ∃ i, ∃ h : i < L.length, z = (i : Int) ∧ nearN (hashS k) (hR L[i]) = true := by
  rw [hp.mem_iff, List.mem_map]
  constructor
  · rintro ⟨e, he, rfl⟩
    obtain ⟨hm, hn⟩ := List.mem_filter.1 he
    obtain ⟨i, hi, rfl⟩ := List.getElem_of_mem hm
    have h : i < L.length := by rw [esL_len] at hi; exact hi
    rw [esL_at h] at hn ⊢
    exact ⟨i, h, rfl, hn⟩
  · rintro ⟨i, h, rfl, hn⟩
    refine ⟨(hR L[i], (i : Int)), List.mem_filter.2 ⟨?_, hn⟩, rfl⟩
    rw [← esL_at h]
    exact List.getElem_mem _
/-- A put: the record of its key is x now. -/
def putL (L : List RecT) (x : RecT) : List RecT := match L.findIdx? fun y => decide (keyR y = keyR x) with
  | some i => L.set i x
  | none => L ++ [x]
theorem putL_in {L : List RecT} (hL : KeysOk L) {i : Nat} (h : i < L.length) {x : RecT} (hx : keyR L[i] = keyR x) : putL L x = L.set i x := by
  unfold putL
  have : L.findIdx? (fun y => decide (keyR y = keyR x)) = some i := by
    rw [List.findIdx?_eq_some_iff_getElem]
    refine ⟨h, by simpa using hx, fun j hj => ?_⟩
    simp only [decide_eq_true_eq]
    intro e
    have hn := List.pairwise_map.1 hL
    have := List.pairwise_iff_getElem.1 hn j i (by omega) h hj
    exact this (e.trans hx.symm)
  rw [this]
theorem putL_new {L : List RecT} {x : RecT} (hx : ∀ y ∈ L, keyR y ≠ keyR x) : putL L x = L ++ [x] := by
  unfold putL
  have : L.findIdx? (fun y => decide (keyR y = keyR x)) = none := by
    rw [List.findIdx?_eq_none_iff]
    intro y hy
    simpa using hx y hy
  rw [this]
theorem find_cases {L : List RecT} (k : List UInt8) : (∃ i, ∃ h : i < L.length, keyR L[i] = k) ∨ ∀ y ∈ L, keyR y ≠ k := by
  by_cases h : ∃ y ∈ L, keyR y = k
  · obtain ⟨y, hy, e⟩ := h
    obtain ⟨i, hi, rfl⟩ := List.getElem_of_mem hy
    exact .inl ⟨i, hi, e⟩
  · exact .inr fun y hy e => h ⟨y, hy, e⟩
theorem KeysOk.put {L : List RecT} (hL : KeysOk L) (x : RecT) : KeysOk (putL L x) := by
  rcases find_cases (L := L) (keyR x) with ⟨i, h, e⟩ | h
  · rw [putL_in hL h e]; exact hL.set h e.symm
  · rw [putL_new h]; exact hL.snoc h
theorem newest_put {L : List RecT} (hL : KeysOk L) (x : RecT) : newestR (putL L x) = setR (newestR L) x := by
  rcases find_cases (L := L) (keyR x) with ⟨i, h, e⟩ | h
  · rw [putL_in hL h e]; exact newest_set hL h e.symm
  · rw [putL_new h]; exact newest_snoc L x
theorem find_put {L : List RecT} (hL : KeysOk L) (x : RecT) (k : List UInt8) : findK keyR (putL L x) k = if keyR x = k then some x else findK keyR L k := by
  rw [← newest_find (hL.put x), newest_put hL, setGo_find ordR x k _ (newest_rising L), newest_find hL]

end Go.Proofs.YtggokffdgjedgaaGreat

namespace Go.Proofs.YtggokffdgjedgaaGreat
open Go.RowKit

/-- How a thing lies in cells, and of which types a row of them is. -/
structure Lay (α : Type) where
  enc : α → List Value
  size : Nat
  elem : TypeId
  row : TypeId
  zero : Value
  bytes : Nat

structure Lay.Ok {α : Type} (K : Lay α) (P : Program) : Prop where
  pos : 0 < K.size
  len : ∀ x, (K.enc x).length = K.size
  one : ∀ x, ∀ u ∈ K.enc x, u.oneCell' = true
  under : P.underlying K.row = some (.slice K.elem)
  info : (P.info? K.elem).map (fun i => (i.zero, i.size, i.bytes)) = some (some K.zero, K.size, K.bytes)
  zsize : K.zero.cells.size = K.size
  fit : K.bytes ≤ 1000

namespace Lay
section
variable {α : Type} {K : Lay α} {P : Program}

def flat (K : Lay α) (l : List α) : List Value := l.flatMap K.enc
theorem flat_append (l m : List α) : K.flat (l ++ m) = K.flat l ++ K.flat m := by simp [flat]
theorem flat_nil : K.flat [] = [] := rfl
theorem flat_cons (x : α) (l : List α) : K.flat (x :: l) = K.enc x ++ K.flat l := by simp [flat]
theorem Ok.flat_len (h : K.Ok P) (l : List α) : (K.flat l).length = l.length * K.size := by
  induction l with
  | nil => simp [flat]
  | cons x l ih => rw [flat_cons, List.length_append, ih, h.len, List.length_cons, Nat.add_mul, Nat.one_mul, Nat.add_comm]
theorem Ok.flat_one (h : K.Ok P) (l : List α) : ∀ u ∈ K.flat l, u.oneCell' = true := by
  intro u hu
  obtain ⟨x, -, hx⟩ := List.mem_flatMap.1 hu
  exact h.one x u hx
theorem Ok.flat_at (h : K.Ok P) : ∀ (l : List α) (i j : Nat) (hi : i < l.length), j < K.size → (K.flat l)[i * K.size + j]? = (K.enc l[i])[j]?
  | [], i, j, hi, _ => absurd hi (by simp)
  | x :: l, 0, j, hi, hj => by rw [flat_cons, Nat.zero_mul, Nat.zero_add, List.getElem?_append_left (by rw [h.len]; exact hj)]; rfl
  | x :: l, i + 1, j, hi, hj => by
    rw [flat_cons, List.getElem?_append_right (by rw [h.len, Nat.add_mul, Nat.one_mul]; omega), h.len, show (i + 1) * K.size + j - K.size = i * K.size + j by rw [Nat.add_mul, Nat.one_mul]; omega]
    exact h.flat_at l i j (by simpa using hi) hj
theorem Ok.flat_drop (h : K.Ok P) (l : List α) (k : Nat) : K.flat (l.drop k) = (K.flat l).drop (k * K.size) := by
  induction k generalizing l with
  | zero => simp
  | succ k ih =>
    cases l with
    | nil => simp [flat]
    | cons x l =>
      rw [List.drop_succ_cons, ih l, flat_cons, show (k + 1) * K.size = (K.enc x).length + k * K.size by rw [h.len, Nat.add_mul, Nat.one_mul, Nat.add_comm], List.drop_append, show (K.enc x).drop ((K.enc x).length + k * K.size) = [] from List.drop_eq_nil_of_le (by omega), List.nil_append, Nat.add_sub_cancel_left]
theorem Ok.flat_take (h : K.Ok P) (l : List α) (k : Nat) : K.flat (l.take k) = (K.flat l).take (k * K.size) := by
  induction k generalizing l with
  | zero => simp [flat]
  | succ k ih =>
    cases l with
    | nil => simp [flat]
    | cons x l =>
      rw [List.take_succ_cons, flat_cons, ih l, flat_cons, show (k + 1) * K.size = (K.enc x).length + k * K.size by rw [h.len, Nat.add_mul, Nat.one_mul, Nat.add_comm], List.take_length_add_append]

/-! ### Cells that are set one behind the other. -/
def sets (xs : List Value) (o : Nat) : List Value → List Value
  | [] => xs
  | v :: r => sets (xs.set o v) (o + 1) r
theorem sets_length : ∀ (vs : List Value) (xs : List Value) (o : Nat), (sets xs o vs).length = xs.length
  | [], xs, o => rfl
  | v :: r, xs, o => by rw [sets, sets_length r, List.length_set]
theorem sets_at : ∀ (vs : List Value) (xs : List Value) (o q : Nat), q < xs.length → (sets xs o vs)[q]? = if o ≤ q ∧ q < o + vs.length then vs[q - o]? else xs[q]?
  | [], xs, o, q, hq => by rw [sets, if_neg (by simp)]
  | v :: r, xs, o, q, hq => by
    rw [sets, sets_at r _ _ _ (by rw [List.length_set]; exact hq)]
    by_cases h1 : q = o
    · subst h1
      rw [if_neg (by omega), if_pos (by simp), List.getElem?_set_self hq]
      simp
    · by_cases h2 : o + 1 ≤ q ∧ q < o + 1 + r.length
      · rw [if_pos h2, if_pos (by rw [List.length_cons]; omega), show q - o = (q - (o + 1)) + 1 by omega, List.getElem?_cons_succ]
      · rw [if_neg h2, if_neg (by rw [List.length_cons]; omega), List.getElem?_set_ne (fun e => h1 e.symm)]
theorem Ok.flat_set (h : K.Ok P) (l : List α) (i : Nat) (_hi : i < l.length) (x : α) : K.flat (l.set i x) = sets (K.flat l) (i * K.size) (K.enc x) := by
  apply List.ext_getElem?
  intro q
  have hp := h.pos
  by_cases hq : q < l.length * K.size
  · have h1 : q / K.size < l.length := (Nat.div_lt_iff_lt_mul hp).2 hq
    have h2 : q % K.size < K.size := Nat.mod_lt _ hp
    have hd : q / K.size * K.size + q % K.size = q := by rw [Nat.mul_comm]; exact Nat.div_add_mod q K.size
    have e1 := h.flat_at (l.set i x) (q / K.size) (q % K.size) (by rw [List.length_set]; exact h1) h2
    have e2 := h.flat_at l (q / K.size) (q % K.size) h1 h2
    rw [hd] at e1 e2
    rw [e1, sets_at _ _ _ _ (by rw [h.flat_len]; exact hq), h.len]
    by_cases hqi : q / K.size = i
    · have hmul : q / K.size * K.size = i * K.size := by rw [hqi]
      rw [if_pos (by omega)]
      have e3 : (l.set i x)[q / K.size]'(by rw [List.length_set]; exact h1) = x := by simp [hqi]
      rw [e3]
      congr 1
      omega
    · rw [if_neg ?_, e2]
      · have e3 : (l.set i x)[q / K.size]'(by rw [List.length_set]; exact h1) = l[q / K.size] := by rw [List.getElem_set_ne (fun e => hqi e.symm)]
        rw [e3]
      · intro hc
        apply hqi
        exact Nat.div_eq_of_lt_le hc.1 (by rw [Nat.succ_mul]; omega)
  · rw [List.getElem?_eq_none (by rw [h.flat_len, List.length_set]; omega), List.getElem?_eq_none (by rw [sets_length, h.flat_len]; omega)]

/-! ### What reads as a list. -/
def R (K : Lay α) (w : World) (v : Value) (l : List α) : Prop :=
  ∃ a cap, v = .slice a l.length cap ∧ l.length ≤ cap ∧ cap ≤ maxLen ∧ (a = none → cap = 0) ∧
    (l ≠ [] → ∃ b o, a = some ⟨b, o, none⟩ ∧ ∀ j u, (K.flat l)[j]? = some u → w.cell? ⟨b, o + j, none⟩ = some u)
theorem R.nil (w : World) : K.R w (.slice none 0 0) [] := ⟨none, 0, rfl, Nat.le_refl _, by simp [maxLen], fun _ => rfl, fun h => absurd rfl h⟩
theorem R.below {w w' : World} {v : Value} {l : List α} (h : K.R w v l) (hb : Below w.heap.size w w') : K.R w' v l := by
  obtain ⟨a, cap, hv, h1, h2, h3, h4⟩ := h
  refine ⟨a, cap, hv, h1, h2, h3, fun hl => ?_⟩
  obtain ⟨b, o, ha, hc⟩ := h4 hl
  exact ⟨b, o, ha, fun j u hj => (hb.cell (World.block_lt_of_cell? w _ (hc j u hj))).trans (hc j u hj)⟩
theorem R.form {w : World} {v : Value} {l : List α} (h : K.R w v l) : ∃ a cap, v = .slice a l.length cap ∧ l.length ≤ 9223372036854775807 := by
  obtain ⟨a, cap, hv, h1, h2, -⟩ := h
  exact ⟨a, cap, hv, by unfold maxLen at h2; omega⟩
theorem R.len {w : World} {a : Option Addr} {n cap : Nat} {l : List α} (h : K.R w (.slice a n cap) l) : n = l.length ∧ n ≤ cap ∧ cap ≤ maxLen := by
  obtain ⟨a', cap', hv, h1, h2, -⟩ := h
  cases hv
  exact ⟨rfl, h1, h2⟩
theorem R.at {w : World} {a : Option Addr} {n cap : Nat} {l : List α} (h : K.R w (.slice a n cap) l) (hK : K.Ok P) (i : Nat) (hi : i < l.length) :
    ∃ b o, a = some ⟨b, o, none⟩ ∧ n = l.length ∧ b < w.heap.size ∧ ∀ j u, (K.enc l[i])[j]? = some u → w.cell? ⟨b, o + i * K.size + j, none⟩ = some u := by
  obtain ⟨a', cap', hv, h1, h2, h3, h4⟩ := h
  cases hv
  obtain ⟨b, o, ha, hc⟩ := h4 (by intro e; subst e; simp at hi)
  have key : ∀ j u, (K.enc l[i])[j]? = some u → w.cell? ⟨b, o + i * K.size + j, none⟩ = some u := fun j u hj => by
    have hjs : j < K.size := by rw [← hK.len l[i]]; exact (List.getElem?_eq_some_iff.1 hj).1
    rw [Nat.add_assoc]
    exact hc _ _ ((hK.flat_at l i j hi hjs).trans hj)
  have h0 : 0 < (K.enc l[i]).length := by rw [hK.len]; exact hK.pos
  exact ⟨b, o, ha, rfl, World.block_lt_of_cell? w _ (key 0 _ (List.getElem?_eq_getElem h0)), key⟩
/-- A piece. -/
theorem R.cut {w : World} {a : Option Addr} {n cap : Nat} {l : List α} (h : K.R w (.slice a n cap) l) (hK : K.Ok P) (i j m : Nat) (hij : i ≤ j) (hj : j ≤ l.length) (hjm : j ≤ m) (hm : m ≤ cap) : K.R w (sliced a i j m K.size) ((l.take j).drop i) := by
  obtain ⟨a', cap', hv, h1, h2, h3, h4⟩ := h
  cases hv
  have hlen : ((l.take j).drop i).length = j - i := by simp; omega
  unfold sliced
  refine ⟨_, m - i, by rw [hlen], by rw [hlen]; omega, by omega, ?_, fun hne => ?_⟩
  · intro hn
    by_cases hc : m = i
    · omega
    · rw [if_neg hc] at hn
      have := h3 (by simpa using hn)
      omega
  · have hji : i < j := by
      rcases Nat.lt_or_ge i j with h | h
      · exact h
      · exact absurd (List.eq_nil_of_length_eq_zero (by rw [hlen]; omega)) hne
    obtain ⟨b, o, rfl, hc⟩ := h4 (by intro e; subst e; simp at hj; omega)
    refine ⟨b, o + i * K.size, ?_, fun q u hq => ?_⟩
    · rw [if_neg (by omega), Option.map_some, Addr.add_mid]
    · rw [hK.flat_drop, List.getElem?_drop, hK.flat_take, List.getElem?_take] at hq
      split at hq
      · rw [Nat.add_assoc]; exact hc _ _ hq
      · cases hq

theorem Ok.elemOf (hK : K.Ok P) : P.elem K.row = K.elem := by simp [Program.elem, hK.under]
theorem Ok.run_size (hK : K.Ok P) (W : World) : (sizeOf (P.elem K.row)).run P W = .ok K.size W := by
  obtain ⟨i, hi, -, hsize, -⟩ := info_parts hK.info
  rw [hK.elemOf]
  simp [sizeOf, typeInfo, hi, hsize]
theorem Ok.underE (hK : K.Ok P) : P.underlying K.row = some (.slice (P.elem K.row)) := by rw [hK.elemOf]; exact hK.under
/-- 'l[j]', in whatever world. -/
theorem Ok.run_idx (hK : K.Ok P) (b o n cap j : Nat) (h : j < n) (W : World) : (Instr.indexAt K.row (.slice (some ⟨b, o, none⟩) n cap) (.int .i64 (j : Int))).run P W = .ok (.pointer (some ⟨b, o + j * K.size, none⟩)) W := by
  rw [run_indexAt_slice W _ _ _ _ _ _ hK.underE, if_pos ⟨by omega, by omega⟩, hK.run_size]
  simp [Result.andThen, Addr.add_mid]
/-- 'l[:j]', 'l[i:]', 'l[:j:m]', in whatever world: the value said. -/
theorem Ok.run_h (hK : K.Ok P) (a : Option Addr) (n cap j : Nat) (hj : j ≤ cap) (k : IntKind) (W : World) : (Instr.slice K.row (.slice a n cap) none (some (.int k (j : Int))) none).run P W = .ok (sliced a 0 j cap K.size) W := by
  have hr := run_slice_h (P := P) W K.row a n cap hK.underE k (j : Int) (by omega) (by omega)
  rw [hK.run_size] at hr
  simpa [Result.andThen] using hr
theorem Ok.run_l (hK : K.Ok P) (a : Option Addr) (n cap i : Nat) (hi : i ≤ n) (k : IntKind) (W : World) : (Instr.slice K.row (.slice a n cap) (some (.int k (i : Int))) none none).run P W = .ok (sliced a i n cap K.size) W := by
  have hr := run_slice_l (P := P) W K.row a n cap hK.underE k (i : Int) (by omega) (by omega)
  rw [hK.run_size] at hr
  simpa [Result.andThen] using hr
theorem Ok.run_lh (hK : K.Ok P) (a : Option Addr) (n cap i j : Nat) (hij : i ≤ j) (hj : j ≤ cap) (k k' : IntKind) (W : World) : (Instr.slice K.row (.slice a n cap) (some (.int k (i : Int))) (some (.int k' (j : Int))) none).run P W = .ok (sliced a i j cap K.size) W := by
  have hr := run_slice_lh (P := P) W K.row a n cap hK.underE k k' (i : Int) (j : Int) (by omega) (by omega) (by omega)
  rw [hK.run_size] at hr
  simpa [Result.andThen] using hr
theorem Ok.run_hm (hK : K.Ok P) (a : Option Addr) (n cap j m : Nat) (hjm : j ≤ m) (hm : m ≤ cap) (k k' : IntKind) (W : World) : (Instr.slice K.row (.slice a n cap) none (some (.int k (j : Int))) (some (.int k' (m : Int)))).run P W = .ok (sliced a 0 j m K.size) W := by
  have hr := run_slice_hm (P := P) W K.row a n cap hK.underE k k' (j : Int) (m : Int) (by omega) (by omega) (by omega)
  rw [hK.run_size] at hr
  simpa [Result.andThen] using hr

/-! ### What the call itself makes, from block B on. -/
def O (K : Lay α) (w : World) (B : Nat) (v : Value) (l : List α) : Prop := w.ownsRow B K.elem K.size v l.length (K.flat l)
theorem O.nil (w : World) (B : Nat) : K.O w B (.slice none 0 0) [] := World.ownsRow_nil w B _ _
theorem O.below {w w' : World} {B : Nat} {v : Value} {l : List α} (h : K.O w B v l) (hb : Below w.heap.size w w') : K.O w' B v l := by
  refine ⟨h.1, ?_⟩
  rcases h.2 with h' | ⟨g, cap, cur, h1, hB, h2, h3⟩
  · exact .inl h'
  · exact .inr ⟨g, cap, cur, h1, hB, (hb.block g (Array.getElem?_eq_some_iff.1 h2).1).trans h2, h3⟩
/-- Blocks of other numbers may turn. -/
theorem O.same {w w' : World} {B : Nat} {v : Value} {l : List α} (h : K.O w B v l) (hb : ∀ (g : Nat) cs, w.heap[g]? = some (.cells cs K.elem (0, 0)) → B ≤ g → v.ownBlock = some g → w'.heap[g]? = w.heap[g]?) : K.O w' B v l := by
  refine ⟨h.1, ?_⟩
  rcases h.2 with h' | ⟨g, cap, cur, h1, hB, h2, h3⟩
  · exact .inl h'
  · exact .inr ⟨g, cap, cur, h1, hB, (hb g _ h2 hB (by rw [h1]; rfl)).trans h2, h3⟩
theorem O.mono {w : World} {B B' : Nat} {v : Value} {l : List α} (h : K.O w B v l) (hB : B' ≤ B) : K.O w B' v l := by
  refine ⟨h.1, ?_⟩
  rcases h.2 with h' | ⟨g, cap, cur, h1, hb, h2⟩
  · exact .inl h'
  · exact .inr ⟨g, cap, cur, h1, Nat.le_trans hB hb, h2⟩
theorem O.row {w : World} {B : Nat} {v : Value} {l : List α} (h : K.O w B v l) : ∀ k, v.ownBlock = some k → B ≤ k := fun k hk => (World.ownsRow.lt h k hk).1
theorem O.lt {w : World} {B : Nat} {v : Value} {l : List α} (h : K.O w B v l) : ∀ k, v.ownBlock = some k → k < w.heap.size := fun k hk => (World.ownsRow.lt h k hk).2
theorem O.kept {w w' : World} {B : Nat} {v : Value} {l : List α} {row : Option Nat} (h : K.O w B v l) (hg : w.grownBy w' row) (hne : v.ownBlock = none ∨ v.ownBlock ≠ row) : K.O w' B v l := World.ownsRow.kept h hg hne
theorem O.alloc {w : World} {B : Nat} {v : Value} {l : List α} (h : K.O w B v l) (o : Obj) : K.O (w.alloc o) B v l := World.ownsRow.alloc h o
theorem O.drew {w : World} {B : Nat} {v : Value} {l : List α} (h : K.O w B v l) : K.O w.drew B v l := World.ownsRow.drew h
theorem O.r {w : World} {B : Nat} {v : Value} {l : List α} (h : K.O w B v l) : K.R w v l := by
  rcases h.2 with ⟨h', hn⟩ | ⟨g, cap, cur, rfl, hB, h2, h3, h4, h5, h6⟩
  · obtain rfl : l = [] := List.eq_nil_of_length_eq_zero hn
    rw [h']
    exact R.nil w
  · refine ⟨_, cap, rfl, h3, h4, (fun h => by cases h), fun hl => ⟨g, 0, rfl, fun j u hj => ?_⟩⟩
    have hjl : j < l.length * K.size := by
      have h1 := h.1
      rw [← h1]
      exact (List.getElem?_eq_some_iff.1 hj).1
    rw [Nat.zero_add]
    exact (World.ownsRow.cellAt h j hjl).trans hj
theorem O.form {w : World} {B : Nat} {v : Value} {l : List α} (h : K.O w B v l) (hl : l ≠ []) : ∃ g cap, v = .slice (some ⟨g, 0, none⟩) l.length cap ∧ B ≤ g ∧ g < w.heap.size ∧ l.length ≤ cap ∧ cap ≤ maxLen := by
  rcases h.2 with ⟨h', hn⟩ | ⟨g, cap, cur, rfl, hB, h2, h3, h4, -⟩
  · exact absurd (List.eq_nil_of_length_eq_zero hn) hl
  · exact ⟨g, cap, rfl, hB, (Array.getElem?_eq_some_iff.1 h2).1, h3, h4⟩
theorem O.num {w : World} {B g n cap : Nat} {l : List α} (h : K.O w B (.slice (some ⟨g, 0, none⟩) n cap) l) : n = l.length := by
  rcases h.2 with ⟨h', _⟩ | ⟨g', cap', cur, h', _⟩
  · simp at h'
  · simp at h'; exact h'.2.1
theorem O.cell {w : World} {B g n cap : Nat} {l : List α} (h : K.O w B (.slice (some ⟨g, 0, none⟩) n cap) l) (hK : K.Ok P) (i : Nat) (hi : i < l.length) (j : Nat) (u : Value) (hj : (K.enc l[i])[j]? = some u) : w.cell? ⟨g, i * K.size + j, none⟩ = some u := by
  obtain rfl := h.num
  have hjs : j < K.size := by rw [← hK.len l[i]]; exact (List.getElem?_eq_some_iff.1 hj).1
  have hlt : i * K.size + j < l.length * K.size := by
    have := Nat.mul_le_mul_right K.size (show i + 1 ≤ l.length from hi)
    rw [Nat.add_mul, Nat.one_mul] at this
    omega
  exact (World.ownsRow.cellAt h _ hlt).trans ((hK.flat_at l i j hi hjs).trans hj)
theorem O.frozenAt {w : World} {B g n cap : Nat} {l : List α} (h : K.O w B (.slice (some ⟨g, 0, none⟩) n cap) l) (j : Nat) : w.frozen? ⟨g, j, none⟩ = false := by
  obtain rfl := h.num
  exact World.ownsRow.frozenAt h j
theorem O.there {w : World} {B g n cap : Nat} {l : List α} (h : K.O w B (.slice (some ⟨g, 0, none⟩) n cap) l) (hK : K.Ok P) (i : Nat) (hi : i < l.length) : w.there g (i * K.size) K.size := by
  intro j hj
  have hjl : j < (K.enc l[i]).length := by rw [hK.len]; exact hj
  exact ⟨by rw [h.cell hK i hi j _ (List.getElem?_eq_getElem hjl)]; rfl, h.frozenAt _⟩
theorem owns_setCells {B : Nat} {e : TypeId} {size g n cap : Nat} : ∀ (vs : List Value) (w : World) (xs : List Value) (o : Nat), w.ownsRow B e size (.slice (some ⟨g, 0, none⟩) n cap) n xs →
    (w.setCells g o vs).ownsRow B e size (.slice (some ⟨g, 0, none⟩) n cap) n (sets xs o vs) ∧ w.grownBy (w.setCells g o vs) (some g)
  | [], w, xs, o, h => ⟨h, World.grownBy.refl _ _⟩
  | v :: r, w, xs, o, h => by
    obtain ⟨h1, g1⟩ := World.ownsRow.stored h o v
    obtain ⟨h2, g2⟩ := owns_setCells r _ _ (o + 1) h1
    exact ⟨h2, g1.trans g2⟩
/-- One of them is stored. -/
theorem O.store {w : World} {B g n cap : Nat} {l : List α} (h : K.O w B (.slice (some ⟨g, 0, none⟩) n cap) l) (hK : K.Ok P) (i : Nat) (hi : i < l.length) (x : α) :
    K.O (w.setCells g (i * K.size) (K.enc x)) B (.slice (some ⟨g, 0, none⟩) n cap) (l.set i x) ∧ w.grownBy (w.setCells g (i * K.size) (K.enc x)) (some g) := by
  obtain rfl := h.num
  obtain ⟨h1, g1⟩ := owns_setCells (K.enc x) w _ (i * K.size) h
  rw [← hK.flat_set l i hi x] at h1
  refine ⟨?_, g1⟩
  unfold O
  rw [List.length_set]
  exact h1
/-- A cell of one of them is stored. -/
theorem O.storeCell {w : World} {B g n cap : Nat} {l : List α} (h : K.O w B (.slice (some ⟨g, 0, none⟩) n cap) l) (hK : K.Ok P) (i : Nat) (hi : i < l.length) (j : Nat) (hj : j < K.size) (u : Value) (x : α) (hx : K.enc x = (K.enc l[i]).set j u) :
    K.O (w.setCell ⟨g, i * K.size + j, none⟩ u) B (.slice (some ⟨g, 0, none⟩) n cap) (l.set i x) ∧ w.grownBy (w.setCell ⟨g, i * K.size + j, none⟩ u) (some g) := by
  obtain rfl := h.num
  obtain ⟨h1, g1⟩ := World.ownsRow.stored h (i * K.size + j) u
  have e : (K.flat l).set (i * K.size + j) u = K.flat (l.set i x) := by
    rw [hK.flat_set l i hi x]
    have hm : i * K.size + K.size ≤ l.length * K.size := by
      have := Nat.mul_le_mul_right K.size (show i + 1 ≤ l.length from hi)
      rwa [Nat.add_mul, Nat.one_mul] at this
    apply List.ext_getElem?
    intro q
    by_cases hq : q < l.length * K.size
    · rw [sets_at _ _ _ _ (by rw [hK.flat_len]; exact hq), hK.len]
      by_cases hr : i * K.size ≤ q ∧ q < i * K.size + K.size
      · rw [if_pos hr, hx]
        have e2 := hK.flat_at l i (q - i * K.size) hi (by omega)
        rw [show i * K.size + (q - i * K.size) = q by omega] at e2
        by_cases hqj : q = i * K.size + j
        · subst hqj
          rw [List.getElem?_set_self (by rw [hK.flat_len]; exact hq), Nat.add_sub_cancel_left, List.getElem?_set_self (by rw [hK.len]; exact hj)]
        · rw [List.getElem?_set_ne (fun e => hqj e.symm), List.getElem?_set_ne (by omega)]
          exact e2
      · rw [if_neg hr, List.getElem?_set_ne (by omega)]
    · rw [List.getElem?_eq_none (by rw [List.length_set, hK.flat_len]; omega), List.getElem?_eq_none (by rw [sets_length, hK.flat_len]; omega)]
  rw [e] at h1
  refine ⟨?_, g1⟩
  unfold O
  rw [List.length_set]
  exact h1
/-- One in a new block of its own. -/
theorem R.one (w : World) (_hK : K.Ok P) (x : α) (e : TypeId) (fr : Nat × Nat) : K.R (w.alloc (.cells (K.enc x).toArray e fr)) (.slice (some ⟨w.heap.size, 0, none⟩) 1 1) [x] := by
  refine ⟨some ⟨w.heap.size, 0, none⟩, 1, rfl, Nat.le_refl _, by simp [maxLen], (fun h => by cases h), fun _ => ⟨w.heap.size, 0, rfl, fun j u hj => ?_⟩⟩
  rw [cell_of_row _ w.heap.size (0 + j) _ _ _ (heap_alloc_new w _), Nat.zero_add]
  rw [flat_cons, flat_nil, List.append_nil] at hj
  rw [List.getElem?_toArray]
  exact hj

/-! ### Laws. -/
section
variable {ops : Array Oper} {rest : List Oper} {o : Oper} {a : Act} {w : World} {Q : Exit → Act → World → Prop}
/-- 'append(s, x...)', s the call's own. -/
theorem Ok.append (hK : K.Ok P) (hgd : o.guard = none) (s x : Operand) (ho : o.op = .call { callee := .builtin .append, args := #[s, x], argTypes := #[K.row, K.row] })
    (B : Nat) (v xv : Value) (l m : List α) (hs : a.eval s = v) (hx : a.eval x = xv) (hown : K.O w B v l) (hrb : K.R w xv m) (hl : l.length + m.length ≤ 1000000) (hbase : B ≤ w.heap.size)
    (h : ∀ v' w', K.O w' B v' (l ++ m) → w.grownBy w' v.ownBlock → wpList P ops Q rest (a.put o.dst v') w') : wpList P ops Q (o :: rest) a w := by
  obtain ⟨i, hi, hz, hsize, hby⟩ := info_parts hK.info
  obtain ⟨ad, cap, rfl, h1, h2, h3, h4⟩ := hrb
  cases ad with
  | none =>
    obtain rfl := h3 rfl
    obtain rfl : m = [] := List.eq_nil_of_length_eq_zero (by omega)
    refine wpList_append_own_none hgd s x K.row ho B K.elem i K.size hK.under hi v l.length (K.flat l) hs hown hx ?_
    exact h v w (by simpa using hown) (World.grownBy.refl _ _)
  | some ad =>
    have hb : (l.length + m.length) * K.bytes ≤ 140737488355328 := by
      have := Nat.mul_le_mul hl hK.fit
      omega
    refine wpList_append_own w hgd s x K.row ho B K.elem i K.zero K.size K.bytes hK.under hi hz hsize hby hK.zsize hK.pos v l.length (K.flat l) hs hown ad m.length cap (K.flat m) hx (hK.flat_len m) ?_ (hK.flat_one m) (by unfold maxLen; omega) hb hbase ?_
    · intro j u hj
      obtain ⟨b, o', hao, hc⟩ := h4 (by intro hm; subst hm; simp [flat] at hj)
      cases hao
      rw [Addr.add_mid]
      exact hc j u hj
    · intro v' w' hown' hg _
      refine h v' w' ?_ hg
      unfold O
      rw [List.length_append, flat_append]
      exact hown'
/-- 'append(s, x...)', s full, both read: what comes out reads as both. -/
theorem Ok.appendR (hK : K.Ok P) (hgd : o.guard = none) (s x : Operand) (ho : o.op = .call { callee := .builtin .append, args := #[s, x], argTypes := #[K.row, K.row] })
    (av : Option Addr) (xv : Value) (l m : List α) (k : Nat) (hs : a.eval s = .slice av k k) (hx : a.eval x = xv) (hl : K.R w (.slice av k k) l) (hm : K.R w xv m) (hlen : l.length + m.length ≤ 1000000)
    (h : ∀ v' w', K.R w' v' (l ++ m) → (m ≠ [] → K.O w' w.heap.size v' (l ++ m)) → w.grownBy w' none → wpList P ops Q rest (a.put o.dst v') w') : wpList P ops Q (o :: rest) a w := by
  obtain ⟨i, hi, hz, hsize, hby⟩ := info_parts hK.info
  obtain ⟨a1, c1, e1, g1, g2, g3, g4⟩ := id hl
  simp only [Value.slice.injEq] at e1
  obtain ⟨rfl, rfl, rfl⟩ := e1
  obtain ⟨a2, c2, rfl, k1, k2, k3, k4⟩ := id hm
  cases m with
  | nil =>
    have hsrc : Src P i.size K.row (.slice a2 ([] : List α).length c2) 0 [] w := by
      cases a2 with
      | none => exact Src.ofNil w hK.under c2
      | some ad => exact Src.ofSlice w hK.under ad 0 c2 [] (by simp) (fun j u hj => by simp at hj) (fun u hu => by cases hu)
    have hrun := run_append_nothing (P := P) w K.row K.row o.type K.elem i hK.under hi av l.length l.length (Nat.le_refl _) _ hsrc
    refine wpList_plain hgd fun F hF => ?_
    unfold Oper.wp
    simp only [List.length_nil] at hrun hx
    simp [execOp, ho, resolve, invoke, builtin, hs, hx, hrun, Result.andThen]
    exact hF _ _ (h _ _ (by rw [List.append_nil]; exact hl) (fun h => absurd rfl h) (World.grownBy.refl _ _))
  | cons y m =>
    obtain ⟨b2, o2, rfl, hc2⟩ := k4 (by simp)
    have hb : (l.length + (y :: m).length) * K.bytes ≤ 140737488355328 := by
      have := Nat.mul_le_mul hlen hK.fit
      omega
    refine wpList_append_grows w hgd s x K.row ho K.elem i K.zero K.size K.bytes hK.under hi hz hsize hby hK.zsize hK.pos av l.length l.length (K.flat l) hs (fun h => ⟨g3 h, g3 h⟩) (hK.flat_len l) ?_ ⟨b2, o2, none⟩ (y :: m).length c2 (K.flat (y :: m)) hx (hK.flat_len _) ?_ (hK.flat_one _) (by simp) (by unfold maxLen; omega) hb ?_
    · intro ad hb j u hj
      subst hb
      obtain ⟨b', o', hb', hc⟩ := g4 (by intro e; subst e; simp [flat] at hj)
      cases hb'
      rw [Addr.add_mid]
      exact hc j u hj
    · intro j u hj
      rw [Addr.add_mid]
      exact hc2 j u hj
    · intro v' w' hown hg
      have ho : K.O w' w.heap.size v' (l ++ y :: m) := by
        unfold O
        rw [List.length_append, flat_append]
        exact hown
      exact h v' w' ho.r (fun _ => ho) hg
/-- 'make([]T, 0, n)'. -/
theorem Ok.make0 (hK : K.Ok P) (hgd : o.guard = none) (lo co : Operand) (hop : o.op = Op.makeSlice K.row lo co) (kc : IntKind) (C : Int) (c : Nat) (hl : a.eval lo = .int .i64 0) (hc : a.eval co = .int kc C) (hC : C = (c : Int)) (hcm : c ≤ 1000000)
    (h : ∀ g w', K.O w' w.heap.size (.slice (some ⟨g, 0, none⟩) 0 c) [] → g = w.heap.size → w.grownBy w' none → wpList P ops Q rest (a.put o.dst (.slice (some ⟨g, 0, none⟩) 0 c)) w') : wpList P ops Q (o :: rest) a w := by
  obtain ⟨i, hi, hz, hsize, hby⟩ := info_parts hK.info
  subst hC
  have hb : i.bytes * c ≤ 1000 * 1000000 := Nat.mul_le_mul (by rw [hby]; exact hK.fit) hcm
  have hb' : (i.bytes : Int) * (c : Int) ≤ 281474976710656 := by
    have : ((i.bytes * c : Nat) : Int) ≤ 1000000000 := by omega
    push_cast at this
    omega
  have hr := run_make (P := P) w K.row K.elem i _ hK.under hi hz .i64 kc 0 c (by omega) (by omega) hb' (by omega)
  simp only [Int.toNat_natCast, hsize] at hr
  refine wpList_gives hgd (.slice (some ⟨w.heap.size, 0, none⟩) 0 c) (w.alloc (.cells (madeCells K.zero.cells (c * K.size)) K.elem)) (by simp at hr; simp [execOp, hop, hl, hc, hr, Result.andThen]) (h _ _ ?_ rfl (World.grownBy_alloc w _ none))
  refine ⟨by simp [flat], .inr ⟨w.heap.size, c, _, rfl, Nat.le_refl _, heap_alloc_new w _, by simp, by unfold maxLen; omega, by simp [size_madeCells], ?_⟩⟩
  simp [flat]
theorem Ok.made (hK : K.Ok P) (z : α) (hz : K.enc z = K.zero.cells.toList) (n : Nat) : (madeCells K.zero.cells (n * K.size)).toList = K.flat (List.replicate n z) := by
  apply List.ext_getElem?
  intro q
  have hp := hK.pos
  by_cases hq : q < n * K.size
  · have h1 : q / K.size < n := (Nat.div_lt_iff_lt_mul hp).2 hq
    have h2 : q % K.size < K.size := Nat.mod_lt _ hp
    have hd : q / K.size * K.size + q % K.size = q := by rw [Nat.mul_comm]; exact Nat.div_add_mod q K.size
    have e := hK.flat_at (List.replicate n z) (q / K.size) (q % K.size) (by rw [List.length_replicate]; exact h1) h2
    rw [hd, List.getElem_replicate, hz] at e
    rw [e, Array.getElem?_toList]
    unfold madeCells
    rw [Array.getElem?_map, Array.getElem?_range, if_pos hq, Array.getElem?_toList]
    simp only [Option.map_some, hK.zsize]
    rw [getElem!_pos _ _ (by rw [hK.zsize]; exact h2), Array.getElem?_eq_getElem (by rw [hK.zsize]; exact h2)]
  · rw [List.getElem?_eq_none (by rw [Array.length_toList, size_madeCells]; omega), List.getElem?_eq_none (by rw [hK.flat_len, List.length_replicate]; omega)]
/-- 'make([]T, n)'. -/
theorem Ok.make (hK : K.Ok P) (z : α) (hz0 : K.enc z = K.zero.cells.toList) (hgd : o.guard = none) (lo co : Operand) (hop : o.op = Op.makeSlice K.row lo co) (kl kc : IntKind) (L C : Int) (n : Nat) (hl : a.eval lo = .int kl L) (hc : a.eval co = .int kc C) (hL : L = (n : Int)) (hC : C = (n : Int)) (hcm : n ≤ 1000000)
    (h : ∀ g w', K.O w' w.heap.size (.slice (some ⟨g, 0, none⟩) n n) (List.replicate n z) → g = w.heap.size → w.grownBy w' none → wpList P ops Q rest (a.put o.dst (.slice (some ⟨g, 0, none⟩) n n)) w') : wpList P ops Q (o :: rest) a w := by
  obtain ⟨i, hi, hz, hsize, hby⟩ := info_parts hK.info
  subst hL hC
  have hb : i.bytes * n ≤ 1000 * 1000000 := Nat.mul_le_mul (by rw [hby]; exact hK.fit) hcm
  have hb' : (i.bytes : Int) * (n : Int) ≤ 281474976710656 := by
    have : ((i.bytes * n : Nat) : Int) ≤ 1000000000 := by omega
    push_cast at this
    omega
  have hr := run_make (P := P) w K.row K.elem i _ hK.under hi hz kl kc n n (by omega) (by omega) hb' (by omega)
  simp only [Int.toNat_natCast, hsize] at hr
  refine wpList_gives hgd (.slice (some ⟨w.heap.size, 0, none⟩) n n) (w.alloc (.cells (madeCells K.zero.cells (n * K.size)) K.elem)) (by simp [execOp, hop, hl, hc, hr, Result.andThen]) (h _ _ ?_ rfl (World.grownBy_alloc w _ none))
  refine ⟨by rw [hK.flat_len], .inr ⟨w.heap.size, n, _, by rw [List.length_replicate], Nat.le_refl _, heap_alloc_new w _, by rw [List.length_replicate]; exact Nat.le_refl _, by unfold maxLen; omega, by simp [size_madeCells], ?_⟩⟩
  rw [hK.made z hz0, List.length_replicate, List.take_of_length_le (by rw [hK.flat_len, List.length_replicate]; exact Nat.le_refl _)]
end
end
end Lay

end Go.Proofs.YtggokffdgjedgaaGreat

namespace Go.Proofs.YtggokffdgjedgaaGreat
open Go.RowKit

def KU : Lay Nat := ⟨fun n => [.int .u64 (n : Int)], 1, 58, 57, .int .u64 0, 8⟩
theorem KU_ok : KU.Ok Tryz.prog := ⟨by decide, fun _ => rfl, fun x u hu => by rw [List.mem_singleton.1 hu]; rfl, Tryz.underlying57, by kernel_rfl, rfl, by decide⟩
def KI : Lay Int := ⟨fun n => [.int .i64 n], 1, 3, 63, .int .i64 0, 8⟩
theorem KI_ok : KI.Ok Tryz.prog := ⟨by decide, fun _ => rfl, fun x u hu => by rw [List.mem_singleton.1 hu]; rfl, Tryz.underlying63, by kernel_rfl, rfl, by decide⟩

set_option maxRecDepth 100000 in
theorem rnear_c (a b : Nat) (w : World) (ha : a < 18446744073709551616) (hb : b < 18446744073709551616) :
    Calls Tryz.prog 36 #[.int .u64 (a : Int), .int .u64 (b : Int)] w fun e w' => e = .returned (.bool (nearN a b)) ∧ w = w' := by
  have TA := Go.Lib.hid fun W => rtag_c a W ha
  have TB := Go.Lib.hid fun W => rtag_c b W hb
  have FA := Go.Lib.hid fun W => rfirst_c a W ha
  have FB := Go.Lib.hid fun W => rfirst_c b W hb
  have OB := Go.Lib.hid fun W => rother_c (firstN b : Int) (tagN b : Int) W
  rw [otherI_nat (first_lt b) (tag_lt b)] at OB
  have hn : nearN a b = (tagN a == tagN b && (firstN a == firstN b || firstN a == othN (firstN b) (tagN b))) := rfl
  generalize othN (firstN b) (tagN b) = ob at *
  generalize nearN a b = N at *
  generalize tagN a = ta at *
  generalize tagN b = tb at *
  generalize firstN a = fa at *
  generalize firstN b = fb at *
  clear ha hb
  by_cases ht : ta = tb
  · subst ht
    by_cases hf : fa = fb
    · subst hf
      have HN := Go.Lib.hid (show N = true by rw [hn]; simp)
      clear hn
      go_enter Tryz.func36, Tryz.ntmps36
      go_wp2_with fail
      refine (TA.out _).mono ?_
      rintro e w1 ⟨rfl, rfl⟩
      go_wp2_with fail
      refine (TB.out _).mono ?_
      rintro e w1 ⟨rfl, rfl⟩
      go_wp2_with fail
      refine (FA.out _).mono ?_
      rintro e w1 ⟨rfl, rfl⟩
      go_wp2_with fail
      refine (FB.out _).mono ?_
      rintro e w1 ⟨rfl, rfl⟩
      go_wp2_with fail
      go_ret
      exact ⟨ret_of (congrArg Value.bool HN.out.symm), rfl⟩
    · have HN := Go.Lib.hid (show N = (fa == ob) by rw [hn]; simp [hf])
      have hfI : ((fa : Int) == (fb : Int)) = false := by simp only [beq_eq_false_iff_ne, ne_eq]; omega
      have HO := Go.Lib.hid (show ((fa : Int) == (ob : Int)) = (fa == ob) by rw [Bool.eq_iff_iff, beq_iff_eq, beq_iff_eq]; omega)
      clear hn
      go_enter Tryz.func36, Tryz.ntmps36
      go_wp2_with fail
      refine (TA.out _).mono ?_
      rintro e w1 ⟨rfl, rfl⟩
      go_wp2_with fail
      refine (TB.out _).mono ?_
      rintro e w1 ⟨rfl, rfl⟩
      go_wp2_with fail
      refine (FA.out _).mono ?_
      rintro e w1 ⟨rfl, rfl⟩
      go_wp2_with fail
      refine (FB.out _).mono ?_
      rintro e w1 ⟨rfl, rfl⟩
      go_wp2_with fail
      refine (FA.out _).mono ?_
      rintro e w1 ⟨rfl, rfl⟩
      go_wp2_with fail
      refine (FB.out _).mono ?_
      rintro e w1 ⟨rfl, rfl⟩
      go_wp2_with fail
      refine (TB.out _).mono ?_
      rintro e w1 ⟨rfl, rfl⟩
      go_wp2_with fail
      refine (OB.out _).mono ?_
      rintro e w1 ⟨rfl, rfl⟩
      go_wp2_with fail
      go_ret
      exact ⟨ret_of (congrArg Value.bool (HO.out.trans HN.out.symm)), rfl⟩
  · have HN := Go.Lib.hid (show N = false by rw [hn]; simp [ht])
    have htI : ((ta : Int) == (tb : Int)) = false := by simp only [beq_eq_false_iff_ne, ne_eq]; omega
    clear hn
    go_enter Tryz.func36, Tryz.ntmps36
    go_wp2_with fail
    refine (TA.out _).mono ?_
    rintro e w1 ⟨rfl, rfl⟩
    go_wp2_with fail
    refine (TB.out _).mono ?_
    rintro e w1 ⟨rfl, rfl⟩
    go_wp2_with fail
    go_ret
    exact ⟨ret_of (congrArg Value.bool HN.out.symm), rfl⟩

def roomK (S k : Nat) : Nat := ((List.range k).map fun b => 4 * bitN S b).sum
theorem roomK_succ (S k : Nat) : roomK S (k + 1) = roomK S k + 4 * bitN S k := by unfold roomK; rw [List.range_succ, List.map_append, List.sum_append]; simp
theorem bitN_le (S b : Nat) : bitN S b ≤ 1 := by unfold bitN; omega
theorem roomK_le (S : Nat) : ∀ k, roomK S k ≤ 4 * k
  | 0 => by simp [roomK]
  | k + 1 => by have := roomK_le S k; have := bitN_le S k; rw [roomK_succ]; omega

theorem and_one (n : Nat) (h : n < 1024) : bits .and .i64 (n : Int) 1 = ((n % 2 : Nat) : Int) := by
  show IntKind.i64.wrap ((BitVec.ofInt 64 (n : Int) &&& BitVec.ofInt 64 ((1 : Nat) : Int)).toNat : Int) = _
  have e (a : Nat) (h : a < 1024) : (BitVec.ofInt 64 (a : Int)).toNat = a := by
    rw [BitVec.ofInt_natCast, BitVec.toNat_ofNat]; exact Nat.mod_eq_of_lt (by omega)
  rw [BitVec.toNat_and, e n h, e 1 (by omega), Nat.and_one_is_mod, IntKind.wrap_i64]
  omega
theorem bit_and {S k : Nat} (hS : S < 256) : bits .and .i64 ((S : Int) / 2 ^ k) 1 = (bitN S k : Int) := by
  have e1 : (S : Int) / 2 ^ k = ((S / 2 ^ k : Nat) : Int) := by
    rw [Int.natCast_ediv]
    simp
  rw [e1, and_one _ (Nat.lt_of_le_of_lt (Nat.div_le_self _ _) (by omega))]
  rfl
theorem cnt_take (S : Nat) (hs : List Nat) {i : Nat} (hi : i < hs.length) : cntN S (hs.take (i + 1)) = cntN S (hs.take i) + (if inS S hs[i] then 1 else 0) := by
  unfold cntN
  rw [List.take_succ_eq_append_getElem hi, List.countP_append, List.countP_singleton]
theorem cnt_le (S : Nat) (hs : List Nat) : cntN S hs ≤ hs.length := List.countP_le_length
theorem room_all {hs : List Nat} (h : ∀ s, s < 256 → cntN s hs ≤ roomN s) : roomB hs = true := by
  unfold roomB
  rw [List.all_eq_true]
  intro S hS
  rw [decide_eq_true_eq]
  exact h S (List.mem_range.1 hS)
theorem room_not {hs : List Nat} {S : Nat} (hS : S < 256) (h : roomN S < cntN S hs) : roomB hs = false := by
  unfold roomB
  rw [List.all_eq_false]
  refine ⟨S, List.mem_range.2 hS, ?_⟩
  rw [decide_eq_true_eq]
  omega

set_option maxHeartbeats 1000000 in
set_option maxRecDepth 100000 in
theorem rroom_c (v : Value) (hs : List Nat) (w : World) (hv : KU.R w v hs) (hlt : ∀ h ∈ hs, h < 18446744073709551616) (hlen : hs.length ≤ 100000) :
    Calls Tryz.prog 28 #[v] w fun e w' => e = .returned (.bool (roomB hs)) ∧ w = w' := by
  obtain ⟨a, cap, rfl, hm⟩ := hv.form
  have HV := Go.Lib.hid hv
  have HLT := Go.Lib.hid hlt
  clear hv hlt
  go_enter Tryz.func28, Tryz.ntmps28
  go_wp2_with fail
  go_loop [3] (fun i => ∃ S : Nat, S ≤ 256 ∧ i = .int .i64 (S : Int) ∧ Hid (∀ s, s < S → cntN s hs ≤ roomN s)) (fun i => 256 - (intOf i).toNat)
  case atStart => exact ⟨0, by omega, rfl, Go.Lib.hid fun s hs => by omega⟩
  case round =>
    obtain ⟨S, hS, rfl, hall⟩ := hrel
    by_cases hlt : S < 256
    · have hI : (S : Int) < 256 := by omega
      go_wp2_with fail
      go_loop [5, 6] (fun r i => ∃ k : Nat, k ≤ 8 ∧ i = .int .i64 (k : Int) ∧ r = .int .i64 (roomK S k : Int)) (fun _ i => 8 - (intOf i).toNat)
      case atStart => exact ⟨0, by omega, rfl, rfl⟩
      case round =>
        obtain ⟨k, hk, rfl, rfl⟩ := hrel
        by_cases hk8 : k < 8
        · have hkI : (k : Int) < 8 := by omega
          have hb := bit_and (S := S) (k := k) hlt
          have HR := Go.Lib.hid (roomK_succ S k)
          have hl := roomK_le S k
          have hb1 := bitN_le S k
          generalize bitN S k = c at *
          generalize roomK S k = r0 at *
          go_wp2_with fail
          go_round
          case rel => exact ⟨k + 1, by omega, by go_num, by rw [HR.out]; go_num⟩
          case measure => simp only [intOf]; omega
        · obtain rfl : k = 8 := by omega
          have e8 : roomK S 8 = roomN S := rfl
          rw [e8]
          have hrn := roomK_le S 8
          rw [e8] at hrn
          clear e8 hk8
          obtain ⟨rn, hrn2⟩ : ∃ rn, rn = roomN S := ⟨_, rfl⟩
          rw [← hrn2] at hrn ⊢
          have HRN := Go.Lib.hid hrn2
          clear hrn2
          go_wp2_with fail
          go_loop [4, 7] (fun n i => ∃ j : Nat, j ≤ hs.length ∧ i = .int .i64 (j : Int) ∧ n = .int .i64 (cntN S (hs.take j) : Int)) (fun _ i => hs.length - (intOf i).toNat)
          case atStart => exact ⟨0, by omega, rfl, by simp [cntN]⟩
          case round =>
            obtain ⟨j, hj, rfl, rfl⟩ := hrel
            by_cases hjl : j < hs.length
            · obtain ⟨b, o, rfl, -, hbs, hc⟩ := HV.out.at KU_ok j hjl
              have c0 : w.cell? ⟨b, o + j, none⟩ = some (.int .u64 (hs[j] : Int)) := by have := hc 0 _ rfl; simpa [KU] using this
              have hix : (Instr.indexAt 57 (.slice (some ⟨b, o, none⟩) hs.length cap) (.int .i64 (j : Int))).run Tryz.prog w = .ok (.pointer (some ⟨b, o + j, none⟩)) w := by
                have := KU_ok.run_idx b o hs.length cap j hjl w
                simpa [KU] using this
              have hx := HLT.out hs[j] (List.getElem_mem hjl)
              have FA := Go.Lib.hid fun W => rfirst_c hs[j] W hx
              have TA := Go.Lib.hid fun W => rtag_c hs[j] W hx
              have OA := Go.Lib.hid fun W => rother_c (firstN hs[j] : Int) (tagN hs[j] : Int) W
              rw [otherI_nat (first_lt _) (tag_lt _)] at OA
              have hct := cnt_take S hs hjl
              have hle := cnt_le S (hs.take j)
              rw [List.length_take] at hle
              have hfl := first_lt hs[j]
              have hol := oth_lt (tagN hs[j]) hfl
              have hin : inS S hs[j] = (bitN S (firstN hs[j]) == 1 && bitN S (othN (firstN hs[j]) (tagN hs[j])) == 1) := rfl
              have hbf := bit_and (S := S) (k := firstN hs[j]) hlt
              have hbo := bit_and (S := S) (k := othN (firstN hs[j]) (tagN hs[j])) hlt
              generalize cntN S (hs.take j) = n0 at *
              generalize bitN S (firstN hs[j]) = bf at *
              generalize bitN S (othN (firstN hs[j]) (tagN hs[j])) = bo at *
              generalize othN (firstN hs[j]) (tagN hs[j]) = fo at *
              generalize firstN hs[j] = ff at *
              generalize tagN hs[j] = tt at *
              generalize inS S hs[j] = I at *
              generalize hs[j] = x at *
              have hn0 : n0 ≤ 100000 := by omega
              clear hc hx hle
              by_cases h1 : bf = 1
              · have b1 : ((bf : Int) == 1) = true := by rw [h1]; rfl
                by_cases h2 : bo = 1
                · have b2 : ((bo : Int) == 1) = true := by rw [h2]; rfl
                  have HC := Go.Lib.hid (show cntN S (hs.take (j + 1)) = n0 + 1 by rw [hct, hin, h1, h2]; rfl)
                  clear hct hin h1 h2
                  go_wp2_with fail
                  refine (FA.out _).mono ?_
                  rintro e w1 ⟨rfl, rfl⟩
                  go_wp2_with fail
                  refine (TA.out _).mono ?_
                  rintro e w1 ⟨rfl, rfl⟩
                  go_wp2_with fail
                  refine (OA.out _).mono ?_
                  rintro e w1 ⟨rfl, rfl⟩
                  go_wp2_with fail
                  go_round
                  case rel => exact ⟨j + 1, by omega, by go_num, by rw [HC.out]; go_num⟩
                  case measure => simp only [intOf]; omega
                · have b2 : ((bo : Int) == 1) = false := by simp only [beq_eq_false_iff_ne, ne_eq]; omega
                  have HC := Go.Lib.hid (show cntN S (hs.take (j + 1)) = n0 by rw [hct, hin]; simp [h2])
                  clear hct hin h1 h2
                  go_wp2_with fail
                  refine (FA.out _).mono ?_
                  rintro e w1 ⟨rfl, rfl⟩
                  go_wp2_with fail
                  refine (TA.out _).mono ?_
                  rintro e w1 ⟨rfl, rfl⟩
                  go_wp2_with fail
                  refine (OA.out _).mono ?_
                  rintro e w1 ⟨rfl, rfl⟩
                  go_wp2_with fail
                  go_round
                  case rel => exact ⟨j + 1, by omega, by go_num, by rw [HC.out]⟩
                  case measure => simp only [intOf]; omega
              · have b1 : ((bf : Int) == 1) = false := by simp only [beq_eq_false_iff_ne, ne_eq]; omega
                have HC := Go.Lib.hid (show cntN S (hs.take (j + 1)) = n0 by rw [hct, hin]; simp [h1])
                clear hct hin h1
                go_wp2_with fail
                refine (FA.out _).mono ?_
                rintro e w1 ⟨rfl, rfl⟩
                go_wp2_with fail
                refine (TA.out _).mono ?_
                rintro e w1 ⟨rfl, rfl⟩
                go_wp2_with fail
                refine (OA.out _).mono ?_
                rintro e w1 ⟨rfl, rfl⟩
                go_wp2_with fail
                go_round
                case rel => exact ⟨j + 1, by omega, by go_num, by rw [HC.out]⟩
                case measure => simp only [intOf]; omega
            · obtain rfl : j = hs.length := by omega
              rw [List.take_length]
              by_cases hgt : rn < cntN S hs
              · have HN := Go.Lib.hid (room_not (hs := hs) hlt (by rw [← HRN.out]; exact hgt))
                generalize cntN S hs = nn at *
                have hgI : (rn : Int) < (nn : Int) := by omega
                go_wp2_with fail
                go_ret
                exact ⟨ret_of (congrArg Value.bool HN.out.symm), rfl⟩
              · have hall2 : Hid (∀ s, s < S + 1 → cntN s hs ≤ roomN s) := Go.Lib.hid fun s hs1 => by
                  rcases Nat.lt_or_ge s S with h | h
                  · exact hall.out s h
                  · obtain rfl : s = S := by omega
                    rw [← HRN.out]; omega
                generalize cntN S hs = nn at *
                have hgI : ¬ (rn : Int) < (nn : Int) := by omega
                go_wp2_with fail
                go_round
                case rel => exact ⟨S + 1, by omega, by go_num, hall2⟩
                case measure => simp only [intOf]; omega
    · obtain rfl : S = 256 := by omega
      have HN := Go.Lib.hid (room_all hall.out)
      clear hall hlt
      go_wp2_with fail
      go_ret
      exact ⟨ret_of (congrArg Value.bool HN.out.symm), rfl⟩

/-- What a law's argument of hashes reads as. -/
theorem ku_of_row {w : World} {a : Option Addr} {len cap : Nat} {zs : List Int} (h : (a = none ∧ len = 0 ∧ cap = 0 ∧ zs = []) ∨
    ∃ x, a = some x ∧ len ≤ cap ∧ cap ≤ maxLen ∧ zs.length = cap ∧ (∀ i, i < zs.length → w.cell? (x.add i) = some (.int .u64 (zs.getD i 0))) ∧ ∀ n ∈ zs, (Lit.int .u64 n).wf = true) :
    ∃ l : List Nat, KU.R w (.slice a len cap) l ∧ ∀ x ∈ l, x < 18446744073709551616 := by
  rcases h with ⟨rfl, rfl, rfl, rfl⟩ | ⟨x, rfl, hl, hm, hz, hc, hw⟩
  · exact ⟨[], Lay.R.nil _, fun x hx => by cases hx⟩
  · have hlen : ((zs.take len).map Int.toNat).length = len := by simp; omega
    have hb : ∀ (i : Nat) (hi : i < zs.length), 0 ≤ zs[i] ∧ zs[i] < 18446744073709551616 := fun i hi => by
      have h := hw zs[i] (List.getElem_mem hi)
      simp [Lit.wf, IntKind.min, IntKind.max, IntKind.signed, IntKind.bits] at h
      omega
    refine ⟨(zs.take len).map Int.toNat, ⟨some x, cap, by rw [hlen], by rw [hlen]; exact hl, hm, (fun h => by cases h), fun hne => ?_⟩, fun y hy => ?_⟩
    · have hpos : 0 < len := by rw [← hlen]; exact List.length_pos_iff.2 hne
      obtain ⟨b, o, spot⟩ := x
      have hspot : spot = none := by simpa [Addr.add] using World.cell?_spot (hc 0 (by omega))
      subst hspot
      refine ⟨b, o, rfl, fun j u hj => ?_⟩
      have hjl : j < len := by
        have := (List.getElem?_eq_some_iff.1 hj).1
        rw [KU_ok.flat_len, hlen] at this
        simpa [KU] using this
      have h1 := hc j (by omega)
      rw [Addr.add_mid] at h1
      have e := KU_ok.flat_at ((zs.take len).map Int.toNat) j 0 (by rw [hlen]; exact hjl) (by decide)
      rw [show j * KU.size + 0 = j from Nat.mul_one j, hj] at e
      have hi' : j < zs.length := by omega
      obtain ⟨b0, b1⟩ := hb j hi'
      rw [h1, e]
      simp only [KU, List.getElem_map, List.getElem_take, List.getElem?_cons_zero, List.getD_eq_getElem?_getD, List.getElem?_eq_getElem hi', Option.getD_some]
      congr 2
      omega
    · obtain ⟨z, hz', rfl⟩ := List.mem_map.1 hy
      obtain ⟨i, hi, rfl⟩ := List.mem_iff_getElem.1 (List.mem_of_mem_take hz')
      have := hb i hi
      omega
theorem KU.at' {w : World} {a : Option Addr} {n cap : Nat} {l : List Nat} (h : KU.R w (.slice a n cap) l) (i : Nat) (hi : i < l.length) : ∃ b o, a = some ⟨b, o, none⟩ ∧ n = l.length ∧ b < w.heap.size ∧ w.cell? ⟨b, o + i, none⟩ = some (.int .u64 (l[i] : Int)) := by
  obtain ⟨b, o, h1, h2, h3, h4⟩ := h.at KU_ok i hi
  exact ⟨b, o, h1, h2, h3, by have := h4 0 _ rfl; simpa [KU] using this⟩
theorem idxU (b o n cap j : Nat) (h : j < n) (W : World) : (Instr.indexAt 57 (.slice (some ⟨b, o, none⟩) n cap) (.int .i64 (j : Int))).run Tryz.prog W = .ok (.pointer (some ⟨b, o + j, none⟩)) W := by
  have := KU_ok.run_idx b o n cap j h W
  simpa [KU] using this

theorem KI.at' {w : World} {a : Option Addr} {n cap : Nat} {l : List Int} (h : KI.R w (.slice a n cap) l) (i : Nat) (hi : i < l.length) : ∃ b o, a = some ⟨b, o, none⟩ ∧ n = l.length ∧ b < w.heap.size ∧ w.cell? ⟨b, o + i, none⟩ = some (.int .i64 l[i]) := by
  obtain ⟨b, o, h1, h2, h3, h4⟩ := h.at KI_ok i hi
  exact ⟨b, o, h1, h2, h3, by have := h4 0 _ rfl; simpa [KI] using this⟩
theorem idxI (b o n cap j : Nat) (h : j < n) (W : World) : (Instr.indexAt 63 (.slice (some ⟨b, o, none⟩) n cap) (.int .i64 (j : Int))).run Tryz.prog W = .ok (.pointer (some ⟨b, o + j, none⟩)) W := by
  have := KI_ok.run_idx b o n cap j h W
  simpa [KI] using this

end Go.Proofs.YtggokffdgjedgaaGreat

namespace Go.Proofs.YtggokffdgjedgaaGreat
open Go.RowKit

/-- Of the blocks that there were all but g are as they were. -/
structure Off1 (g : Nat) (w w' : World) : Prop where
  os : w'.os = w.os
  tape : w'.tape = w.tape
  output : w'.output = w.output
  size : w.heap.size ≤ w'.heap.size
  block : ∀ k, k < w.heap.size → k ≠ g → w'.heap[k]? = w.heap[k]?
section
variable {g : Nat} {w w1 w2 w' : World}
theorem Off1.refl (g : Nat) (w : World) : Off1 g w w := ⟨rfl, rfl, rfl, Nat.le_refl _, fun _ _ _ => rfl⟩
theorem Off1.trans (h : Off1 g w w1) (k : Off1 g w1 w2) : Off1 g w w2 :=
  ⟨k.os.trans h.os, k.tape.trans h.tape, k.output.trans h.output, Nat.le_trans h.size k.size, fun i hi hn => (k.block i (Nat.lt_of_lt_of_le hi h.size) hn).trans (h.block i hi hn)⟩
theorem Off1.of_below (h : Below w.heap.size w w') : Off1 g w w' := ⟨h.os, h.tape, h.output, h.size, fun k hk _ => h.block k hk⟩
theorem Off1.set (h : Off1 g w w') (o : Nat) (u : Value) : Off1 g w (w'.setCell ⟨g, o, none⟩ u) :=
  ⟨h.os, h.tape, h.output, by simpa [World.setCell] using h.size, fun k hk hn => (Below.heap_setCell _ _ _ _ hn).trans (h.block k hk hn)⟩
theorem Off1.below {B : Nat} (h : Off1 g w w') (hg : B ≤ g) (hB : B ≤ w.heap.size) : Below B w w' :=
  ⟨h.os, h.tape, h.output, h.size, fun k hk => h.block k (by omega) (by omega)⟩
/-- What lies elsewhere stays. -/
theorem Off1.cell (h : Off1 g w w') {p : Addr} {u : Value} (hc : w.cell? p = some u) (hp : p.block ≠ g) : w'.cell? p = some u :=
  (World.cell?_of_block (w := w) (h.block p.block (World.block_lt_of_cell? w _ hc) hp)).trans hc
theorem Off1.setRow' (g : Nat) (w : World) (cs : Array Value) : Off1 g w (w.setRow g cs) := ⟨rfl, rfl, rfl, by simp, fun k _ hn => setRow_other w g k cs hn⟩
theorem Off1.above (h : Off1 g w w1) (k : Below w1.heap.size w1 w2) : Off1 g w w2 := h.trans (Off1.of_below k)
end

end Go.Proofs.YtggokffdgjedgaaGreat

namespace Go.Proofs.YtggokffdgjedgaaGreat
open Go.RowKit

def hasO (x : Option (Nat × Int)) : Bool := x.isSome
def tagO : Option (Nat × Int) → Nat
  | some x => x.1
  | none => 0
def idO : Option (Nat × Int) → Int
  | some x => x.2
  | none => 0
/-- A slot's cells. -/
def encO (x : Option (Nat × Int)) : List Value := [.bool (hasO x), .int .i64 (tagO x : Int), .int .i64 (idO x)]
/-- A bucket's cells. -/
def rowO (T : SlT) (b : Nat) : List Value := encO (T (4 * b)) ++ (encO (T (4 * b + 1)) ++ (encO (T (4 * b + 2)) ++ encO (T (4 * b + 3))))
theorem rowO_len (T : SlT) (b : Nat) : (rowO T b).length = 12 := rfl
theorem rowO_at (T : SlT) (b s j : Nat) (hs : s < 4) (hj : j < 3) : (rowO T b)[3 * s + j]? = (encO (T (4 * b + s)))[j]? := by
  rcases (by omega : s = 0 ∨ s = 1 ∨ s = 2 ∨ s = 3) with rfl | rfl | rfl | rfl <;> rcases (by omega : j = 0 ∨ j = 1 ∨ j = 2) with rfl | rfl | rfl <;> rfl

/-- Block d is a directory whose slots hold T. -/
structure CK (w : World) (d : Nat) (T : SlT) : Prop where
  row : ∃ cs fr, w.heap[d]? = some (.cells cs 82 fr)
  tok : TOk T
  fr : ∀ o, w.frozen? ⟨d, o, none⟩ = false
  has : ∀ q, q < 32 → w.cell? ⟨d, 3 * q, none⟩ = some (.bool (hasO (T q)))
  tag : ∀ q, q < 32 → w.cell? ⟨d, 3 * q + 1, none⟩ = some (.int .i64 (tagO (T q) : Int))
  id : ∀ q, q < 32 → w.cell? ⟨d, 3 * q + 2, none⟩ = some (.int .i64 (idO (T q)))

section
variable {w w' : World} {d : Nat} {T : SlT}
theorem CK.same (h : CK w d T) (hb : w'.heap[d]? = w.heap[d]?) : CK w' d T := by
  have hc : ∀ o, w'.cell? ⟨d, o, none⟩ = w.cell? ⟨d, o, none⟩ := fun o => World.cell?_of_block (w := w) (a := ⟨d, o, none⟩) hb
  obtain ⟨cs, fr, hr⟩ := h.row
  have hf := h.fr 0
  refine ⟨⟨cs, fr, hb.trans hr⟩, h.tok, fun o => ?_, fun q hq => (hc _).trans (h.has q hq), fun q hq => (hc _).trans (h.tag q hq), fun q hq => (hc _).trans (h.id q hq)⟩
  have e := h.fr o
  unfold World.frozen? at e ⊢
  simp only [] at e ⊢
  rw [hb]
  exact e
theorem CK.lt (h : CK w d T) : d < w.heap.size := World.block_lt_of_cell? w _ (h.has 0 (by omega))
theorem CK.below (h : CK w d T) (hb : Below w.heap.size w w') : CK w' d T := h.same (hb.block d h.lt)
theorem CK.cell (h : CK w d T) (q j : Nat) (hq : q < 32) (hj : j < 3) : w.cell? ⟨d, 3 * q + j, none⟩ = (encO (T q))[j]? := by
  rcases (by omega : j = 0 ∨ j = 1 ∨ j = 2) with rfl | rfl | rfl
  · exact h.has q hq
  · exact h.tag q hq
  · exact h.id q hq
theorem CK.range (h : CK w d T) (b : Nat) (hb : b < 8) : w.rangeAt d (12 * b) (rowO T b) := by
  intro k v hv
  have hk : k < 12 := (List.getElem?_eq_some_iff.1 hv).1
  have e := rowO_at T b (k / 3) (k % 3) (by omega) (by omega)
  rw [show 3 * (k / 3) + k % 3 = k by omega, hv] at e
  have c := h.cell (4 * b + k / 3) (k % 3) (by omega) (by omega)
  rw [show 12 * b + k = 3 * (4 * b + k / 3) + k % 3 by omega, c]
  exact e.symm
theorem CK.rangeS (h : CK w d T) (q : Nat) (hq : q < 32) : w.rangeAt d (3 * q) (encO (T q)) := by
  intro k v hv
  have hk : k < 3 := (List.getElem?_eq_some_iff.1 hv).1
  rw [h.cell q k hq hk]
  exact hv
end

theorem keepC {w w' : World} {p : Addr} {u : Value} (h : w.cell? p = some u) (hb : Below w.heap.size w w') : w'.cell? p = some u := (hb.cell (World.block_lt_of_cell? w _ h)).trans h
def idOk (i : Int) : Bool := decide (0 ≤ i ∧ i ≤ 1099511627776)
theorem idOk_of {i : Int} (h : idOk i = true) : 0 ≤ i ∧ i ≤ 1099511627776 := of_decide_eq_true h

set_option maxRecDepth 100000 in
theorem cmay_c (i : Int) (w : World) : Calls Tryz.prog 51 #[.int .i64 i] w fun e w' => e = .returned (.bool (idOk i)) ∧ w = w' := by
  by_cases h1 : 0 ≤ i
  · have E := Go.Lib.hid (show idOk i = decide (i ≤ 1099511627776) by unfold idOk; simp [h1])
    go_enter Tryz.func51, Tryz.ntmps51
    go_wp2_with fail
    go_ret
    exact ⟨by rw [E.out]; rfl, rfl⟩
  · have E := Go.Lib.hid (show idOk i = false by unfold idOk; simp [h1])
    go_enter Tryz.func51, Tryz.ntmps51
    go_wp2_with fail
    go_ret
    exact ⟨by rw [E.out]; rfl, rfl⟩

set_option maxRecDepth 100000 in
theorem cpair_c (x : Nat) (w : World) (hx : x < 18446744073709551616) : Calls Tryz.prog 53 #[.int .u64 (x : Int)] w fun e w' => e = .returned (.tuple #[.int .i64 (firstN x : Int), .int .i64 (othN (firstN x) (tagN x) : Int)]) ∧ w = w' := by
  have FA := Go.Lib.hid fun W => hfirst_c x W hx
  have TA := Go.Lib.hid fun W => htag_c x W hx
  have OA := Go.Lib.hid fun W => hother_c (firstN x : Int) (tagN x : Int) W (by have := first_lt x; omega) (by have := first_lt x; omega) (by have := tag_lt x; omega) (by have := tag_lt x; omega)
  rw [otherI_nat (first_lt _) (tag_lt _)] at OA
  generalize othN (firstN x) (tagN x) = o at *
  generalize firstN x = f at *
  generalize tagN x = t at *
  clear hx
  go_enter Tryz.func53, Tryz.ntmps53
  go_wp2_with fail
  refine (FA.out _).mono ?_
  rintro e w1 ⟨rfl, rfl⟩
  go_wp2_with fail
  refine (TA.out _).mono ?_
  rintro e w1 ⟨rfl, rfl⟩
  go_wp2_with fail
  refine (OA.out _).mono ?_
  rintro e w1 ⟨rfl, rfl⟩
  go_wp2_with fail
  go_ret2
  exact ⟨rfl, rfl⟩

def zeroC : Array Value := ((List.replicate 32 [Value.bool false, .int .i64 0, .int .i64 0]).flatten).toArray
theorem infoC : (Tryz.prog.info? 82).map (fun i => (i.zero, i.size)) = some (some (.agg zeroC), 96) := by kernel_rfl
theorem zero_run (W : World) : (zeroValue 82).run Tryz.prog W = .ok (.agg zeroC) W := by
  have h := infoC
  cases hi : Tryz.prog.info? 82 with
  | none => rw [hi] at h; cases h
  | some i =>
    rw [hi] at h
    simp only [Option.map_some, Option.some.injEq, Prod.mk.injEq] at h
    simp [zeroValue, typeInfo, hi, h.1]
set_option maxRecDepth 100000 in
theorem cnew_w (w : World) : Calls Tryz.prog 24 #[] w fun e w' => e = .returned (.pointer (some ⟨w.heap.size, 0, none⟩)) ∧ w' = w.alloc (.cells zeroC 82) := by
  have hz := zero_run
  generalize zeroC = Z at *
  go_enter Tryz.func24, Tryz.ntmps24
  go_wp2_with fail
  go_ret
  exact ⟨rfl, rfl⟩
theorem rep3_at {α : Type} (l : List α) (hl : l.length = 3) (j : Nat) (hj : j < 3) : ∀ n q : Nat, q < n → ((List.replicate n l).flatten)[3 * q + j]? = l[j]?
  | 0, q, h => absurd h (by omega)
  | n + 1, 0, _ => by rw [List.replicate_succ, List.flatten_cons, List.getElem?_append_left (by omega)]; congr 1; omega
  | n + 1, q + 1, h => by
    rw [List.replicate_succ, List.flatten_cons, List.getElem?_append_right (by omega), show 3 * (q + 1) + j - l.length = 3 * q + j by omega]
    exact rep3_at l hl j hj n q (by omega)
theorem zeroC_at (q j : Nat) (hq : q < 32) (hj : j < 3) : zeroC[3 * q + j]? = (encO none)[j]? := by
  unfold zeroC
  rw [List.getElem?_toArray]
  exact rep3_at _ rfl j hj 32 q hq
theorem cnew_c (w : World) : Calls Tryz.prog 24 #[] w fun e w' => ∃ d, e = .returned (.pointer (some ⟨d, 0, none⟩)) ∧ w.heap.size ≤ d ∧ CK w' d (fun _ => none) ∧ Below w.heap.size w w' := by
  refine (cnew_w w).mono ?_
  rintro e w' ⟨rfl, rfl⟩
  have hh := heap_alloc_new w (.cells zeroC 82)
  have hc : ∀ o, (w.alloc (.cells zeroC 82)).cell? ⟨w.heap.size, o, none⟩ = zeroC[o]? := fun o => cell_of_row _ _ _ _ _ _ hh
  refine ⟨w.heap.size, rfl, Nat.le_refl _, ⟨⟨_, _, hh⟩, (fun q x h => by cases h), (fun o => frozen_of_row _ _ _ _ _ hh), fun q hq => ?_, fun q hq => ?_, fun q hq => ?_⟩, (Below.refl _ _).alloc (Nat.le_refl _) _⟩
  · rw [hc]; exact zeroC_at q 0 hq (by omega)
  · rw [hc]; exact zeroC_at q 1 hq (by omega)
  · rw [hc]; exact zeroC_at q 2 hq (by omega)

end Go.Proofs.YtggokffdgjedgaaGreat
