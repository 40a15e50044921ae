/-
  The contracts of hash.Of, First, Tag, Other.
  Which record may be, of a record as one letter.
  Mathematics of a log (of no code): records of different keys in the order in which they came, their entries, the same ones by rising keys.
-/
import Derived.Test.YtkddleonmkhaiaaGreatM11
import Derived.Test.YtkddleonmkhaiaaGreatM03
import Derived.Test.YtkddleonmkhaiaaGreatM07
import Derived.Test.YtkddleonmkhaiaaGreatM09
import Derived.Test.YtkddleonmkhaiaaGreatM10
namespace Go.Proofs.YtkddleonmkhaiaaGreat
open Go.RowKit

set_option maxHeartbeats 1000000 in
set_option maxRecDepth 100000 in
theorem hof_c (s : ByteArray) (w : World) (hm : s.size ≤ 1000000) :
    Calls Tryz.prog 33 #[.string s] w fun e w' => e = .returned (.int .u64 (hashN (runesOf (toks (bl s))) : Int)) ∧ Below w.heap.size w w' := by
  have C := of_c s w (by omega)
  have hlen : (runesOf (toks (bl s))).length ≤ 1000000 := by rw [runesOf_length]; have := toks_length (bl s); rw [← bl_size] at this; omega
  have hrl := rune_lt (bl s)
  generalize runesOf (toks (bl s)) = rs at *
  have C := Go.Lib.hid C
  have hlen := Go.Lib.hid hlen
  have hrl := Go.Lib.hid hrl
  have hf := Go.Lib.hid fold_nil
  go_enter Tryz.func33, Tryz.ntmps33
  go_wp2_with fail
  refine C.out.mono ?_
  rintro e w1 ⟨v1, rfl, h1, hb⟩
  obtain ⟨a, c, rfl, -⟩ := h1.rv.form
  have e0 : (zi .i32 rs).length = rs.length := zi_length ..
  rw [e0] at h1 ⊢
  have HR := Go.Lib.hid h1.rv
  clear h1 e0 C
  go_wp2_with fail
  go_loop [3, 9] (fun hv iv => ∃ k : Nat, k ≤ rs.length ∧ iv = .int .i64 (k : Int) ∧ hv = .int .u64 (foldH (rs.take k) : Int)) (fun _ iv => rs.length - (intOf iv).toNat)
  case atStart => exact ⟨0, by omega, rfl, by rw [hf.out]; rfl⟩
  case round =>
    obtain ⟨k, hk, rfl, rfl⟩ := hrel
    by_cases hlt : k < rs.length
    · obtain ⟨b, o, rfl, hc, -⟩ := HR.out.at k (by rw [zi_length]; exact hlt)
      rw [zi_at _ _ _ hlt] at hc
      have hs := foldH_snoc (rs.take k) rs[k]
      rw [← List.take_succ_eq_append_getElem hlt] at hs
      have Hs := Go.Lib.hid hs
      have Hlt := Go.Lib.hid (foldH_lt (rs.take k))
      clear hs
      generalize foldH (rs.take k) = h at *
      have Hr := Go.Lib.hid (hrl.out rs[k] (List.getElem_mem hlt))
      generalize rs[k] = r at *
      have hk6 : k ≤ 1000000 := by have := hlen.out; omega
      have Hst := Go.Lib.hid (mix_step h r Hlt.out Hr.out)
      go_wp2_with fail
      go_round
      case rel => exact ⟨k + 1, by omega, by go_num, by rw [Hst.out, Hs.out]⟩
      case measure => simp only [intOf]; omega
    · obtain rfl : k = rs.length := by omega
      rw [List.take_length]
      have Ha := Go.Lib.hid (turn_a (foldH rs) (foldH_lt rs))
      have Hb := Go.Lib.hid (turn_b (foldH rs))
      have Hc := Go.Lib.hid (turn_c (foldH rs))
      have Hh := Go.Lib.hid (show hashN rs = turnC (foldH rs) from rfl)
      generalize foldH rs = h at *
      go_wp2_with fail
      go_ret
      refine ⟨ret_int (a := bits .xor .u64 (IntKind.u64.wrap (bits .xor .u64 (h : Int) ((h : Int) / 4294967296) * 11400714819323198485)) (IntKind.u64.wrap (bits .xor .u64 (h : Int) ((h : Int) / 4294967296) * 11400714819323198485) / 536870912)) ?_, hb⟩
      rw [Ha.out, Hb.out, Hc.out, Hh.out]

/-- A text's hash. -/
def hashS (s : ByteArray) : Nat := hashN (runesOf (toks (bl s)))
theorem hashS_lt (s : ByteArray) : hashS s < 18446744073709551616 := by have := hashN_lt (runesOf (toks (bl s))); rw [two64_lit] at this; exact this
theorem hof_k (s : ByteArray) (n : Nat) (h : hashS s = n) (w : World) (hm : s.size ≤ 1000000) : Calls Tryz.prog 33 #[.string s] w fun e w' => e = .returned (.int .u64 (n : Int)) ∧ Below w.heap.size w w' := by subst h; exact hof_c s w hm
theorem rhash_k (s : ByteArray) (n : Nat) (h : hashS s = n) (w : World) (hm : s.size ≤ 1000000) : Calls Tryz.prog 27 #[.string s] w fun e w' => e = .returned (.int .u64 (n : Int)) ∧ Below w.heap.size w w' := by subst h; exact rhash_c s w hm

end Go.Proofs.YtkddleonmkhaiaaGreat

namespace Go.Proofs.YtkddleonmkhaiaaGreat
open Go.RowKit

def mayT (x : RecT) : Bool := mayRec x.1 x.2.1 x.2.2.1 x.2.2.2.1 x.2.2.2.2
/-- What may be is short. -/
theorem mayT_short {x : RecT} (h : mayT x = true) : x.1.size ≤ 16 ∧ x.2.2.2.2.size ≤ 24 := by
  obtain ⟨key, gone, k, n, s⟩ := x
  have hz : ∀ s : ByteArray, s.toList.isEmpty = true → s.size ≤ 24 := by
    intro s hs
    rw [ByteArray.toList_eq, List.isEmpty_iff] at hs
    have : s.size = 0 := by
      show s.data.size = 0
      rw [← Array.length_toList, hs]; rfl
    omega
  unfold mayT mayRec mayK at h
  simp only [Bool.and_eq_true, decide_eq_true_eq] at h
  refine ⟨h.1.2, ?_⟩
  show s.size ≤ 24
  have h2 := h.2
  cases gone with
  | true =>
    simp only [if_true, Bool.and_eq_true] at h2
    exact hz _ h2.2
  | false =>
    simp only [Bool.false_eq_true, if_false] at h2
    unfold mayR at h2
    split at h2
    · exact hz _ h2
    · split at h2
      · simp only [Bool.and_eq_true, decide_eq_true_eq] at h2
        exact h2.1.2
      · cases h2

end Go.Proofs.YtkddleonmkhaiaaGreat

namespace Go.Proofs.YtkddleonmkhaiaaGreat

def hR (x : RecT) : Nat := hashS x.1
def esL (L : List RecT) : List EnT := L.zipIdx.map fun p => (hR p.1, (p.2 : Int))
theorem esL_len (L : List RecT) : (esL L).length = L.length := by simp [esL]
theorem esL_at {L : List RecT} {i : Nat} (h : i < L.length) : (esL L)[i]'(by rw [esL_len]; exact h) = (hR L[i], (i : Int)) := by simp [esL]
theorem esL_fst (L : List RecT) : (esL L).map Prod.fst = L.map hR := by
  apply List.ext_getElem
  · simp [esL_len]
  · intro i h1 h2
    have : i < L.length := by simpa [esL_len] using h1
    rw [List.getElem_map, List.getElem_map, esL_at this]
theorem esL_snoc (L : List RecT) (x : RecT) : esL (L ++ [x]) = esL L ++ [(hR x, (L.length : Int))] := by simp [esL, List.zipIdx_append]
theorem esL_set {L : List RecT} {i : Nat} (h : i < L.length) {x : RecT} (hx : hR x = hR L[i]) : esL (L.set i x) = esL L := by
  apply List.ext_getElem
  · simp [esL_len]
  · intro j h1 h2
    have hj : j < L.length := by simpa [esL_len] using h1
    rw [esL_at (by rw [List.length_set]; exact hj), esL_at hj, List.getElem_set]
    split
    · rename_i e; subst e; rw [hx]
    · rfl

/-! ### What is found of a key. -/
def KeysOk (L : List RecT) : Prop := (L.map keyR).Nodup
theorem keyR_eq {x : RecT} {k : ByteArray} : keyR x = k.toList ↔ x.1 = k := by
  unfold keyR
  rw [ByteArray.toList_eq, ByteArray.toList_eq]
  exact ⟨fun h => ByteArray.ext (Array.toList_inj.1 h), fun h => by rw [h]⟩
theorem find_iff {L : List RecT} (h : KeysOk L) (k : List UInt8) (x : RecT) : findK keyR L k = some x ↔ x ∈ L ∧ keyR x = k := by
  induction L with
  | nil => simp [findK]
  | cons y t ih =>
    have hn := List.nodup_cons.1 (by simpa [KeysOk] using h : (keyR y :: t.map keyR).Nodup)
    have ih := ih hn.2
    unfold findK at ih ⊢
    rw [List.find?_cons]
    by_cases hy : keyR y = k
    · simp only [hy, decide_true, Option.some.injEq, List.mem_cons]
      constructor
      · rintro rfl; exact ⟨.inl rfl, hy⟩
      · rintro ⟨rfl | hx, hk⟩
        · rfl
        · exact absurd (List.mem_map.2 ⟨x, hx, hk.trans hy.symm⟩) hn.1
    · simp only [hy, decide_false, ih, List.mem_cons]
      constructor
      · rintro ⟨h1, h2⟩; exact ⟨.inr h1, h2⟩
      · rintro ⟨rfl | h1, h2⟩
        · exact absurd h2 hy
        · exact ⟨h1, h2⟩
theorem find_none {L : List RecT} (k : List UInt8) : findK keyR L k = none ↔ ∀ x ∈ L, keyR x ≠ k := by
  unfold findK
  rw [List.find?_eq_none]
  simp
theorem opt_ext {α : Type} {a b : Option α} (h : ∀ x, a = some x ↔ b = some x) : a = b := by
  cases a with
  | none => cases b with
    | none => rfl
    | some y => exact ((h y).2 rfl)
  | some x => exact ((h x).1 rfl).symm
theorem find_congr {L M : List RecT} (hL : KeysOk L) (hM : KeysOk M) (h : ∀ x, x ∈ L ↔ x ∈ M) (k : List UInt8) : findK keyR L k = findK keyR M k :=
  opt_ext fun x => by rw [find_iff hL, find_iff hM, h]
theorem KeysOk.rev {L : List RecT} (h : KeysOk L) : KeysOk L.reverse := by
  unfold KeysOk at *
  rw [List.map_reverse]
  exact List.pairwise_reverse.2 (h.imp fun hn e => hn e.symm)
theorem KeysOk.perm {L M : List RecT} (h : KeysOk L) (g : L.Perm M) : KeysOk M := (g.map keyR).nodup_iff.1 h
theorem KeysOk.nodup {L : List RecT} (h : KeysOk L) : L.Nodup := (List.pairwise_map.1 h).imp fun hn e => hn (by rw [e])
theorem rising_keys {L : List RecT} (h : Rising keyR Go.Op.bytesLess L) : KeysOk L := by
  unfold KeysOk
  exact List.pairwise_map.2 (h.imp fun hl e => by rw [e, ordR.irr] at hl; cases hl)
theorem newest_rising (L : List RecT) : Rising keyR Go.Op.bytesLess (newestR L) := newestK_rising ordR L
theorem newest_keys (L : List RecT) : KeysOk (newestR L) := rising_keys (newest_rising L)
theorem newest_find {L : List RecT} (h : KeysOk L) (k : List UInt8) : findK keyR (newestR L) k = findK keyR L k := by
  rw [newestK_find ordR]
  exact find_congr h.rev h (fun x => by simp) k
theorem newest_mem {L : List RecT} (h : KeysOk L) (x : RecT) : x ∈ newestR L ↔ x ∈ L := by
  have h1 := find_iff (newest_keys L) (keyR x) x
  have h2 := find_iff h (keyR x) x
  rw [newest_find h, h2] at h1
  simpa using h1.symm
theorem newest_perm {L : List RecT} (h : KeysOk L) : (newestR L).Perm L := (List.perm_ext_iff_of_nodup (newest_keys L).nodup h.nodup).2 (newest_mem h)
theorem newest_congr {L M : List RecT} (hL : KeysOk L) (hM : KeysOk M) (h : ∀ x, x ∈ L ↔ x ∈ M) : newestR L = newestR M :=
  rising_ext ordR _ _ (newest_rising L) (newest_rising M) fun k => by rw [newest_find hL, newest_find hM, find_congr hL hM h]
theorem newest_len {L : List RecT} (h : KeysOk L) : (newestR L).length = L.length := (newest_perm h).length_eq

/-! ### One record more, or in place of another one. -/
theorem keys_set {L : List RecT} {i : Nat} (h : i < L.length) {x : RecT} (hx : keyR x = keyR L[i]) : (L.set i x).map keyR = L.map keyR := by
  apply List.ext_getElem
  · simp
  · intro j h1 h2
    rw [List.getElem_map, List.getElem_map, List.getElem_set]
    split
    · rename_i e; subst e; exact hx
    · rfl
theorem KeysOk.set {L : List RecT} (hL : KeysOk L) {i : Nat} (h : i < L.length) {x : RecT} (hx : keyR x = keyR L[i]) : KeysOk (L.set i x) := by
  unfold KeysOk
  rw [keys_set h hx]
  exact hL
theorem KeysOk.snoc {L : List RecT} (hL : KeysOk L) {x : RecT} (hx : ∀ y ∈ L, keyR y ≠ keyR x) : KeysOk (L ++ [x]) := by
  unfold KeysOk at *
  rw [List.map_append]
  refine List.nodup_append.2 ⟨hL, by simp, ?_⟩
  intro a ha b hb
  obtain ⟨y, hy, rfl⟩ := List.mem_map.1 ha
  simp only [List.map_cons, List.map_nil, List.mem_singleton] at hb
  subst hb
  exact hx y hy
theorem newest_snoc (L : List RecT) (x : RecT) : newestR (L ++ [x]) = setR (newestR L) x := by
  unfold newestR newestK
  rw [List.foldl_append]
  rfl
theorem mem_set_keys {L : List RecT} (hL : KeysOk L) {i : Nat} (h : i < L.length) {x : RecT} (hx : keyR x = keyR L[i]) (y : RecT) : y ∈ L.set i x ↔ y = x ∨ (y ∈ L ∧ keyR y ≠ keyR x) := by
  constructor
  · intro hy
    by_cases hk : keyR y = keyR x
    · left
      have h1 := find_iff (hL.set h hx) (keyR x) y
      have h2 := find_iff (hL.set h hx) (keyR x) x
      have h3 : x ∈ L.set i x := List.mem_set h x
      have e1 := h1.2 ⟨hy, hk⟩
      have e2 := h2.2 ⟨h3, rfl⟩
      rw [e1] at e2
      exact Option.some.inj e2
    · right
      rcases List.mem_or_eq_of_mem_set hy with g | g
      · exact ⟨g, hk⟩
      · exact absurd (by rw [g]) hk
  · rintro (rfl | ⟨hy, hk⟩)
    · exact List.mem_set h y
    · obtain ⟨j, hj, rfl⟩ := List.getElem_of_mem hy
      have hne : i ≠ j := by rintro rfl; exact hk hx.symm
      have : (L.set i x)[j]'(by rw [List.length_set]; exact hj) = L[j] := by rw [List.getElem_set, if_neg hne]
      rw [← this]
      exact List.getElem_mem _
theorem newest_set {L : List RecT} (hL : KeysOk L) {i : Nat} (h : i < L.length) {x : RecT} (hx : keyR x = keyR L[i]) : newestR (L.set i x) = setR (newestR L) x := by
  refine rising_ext ordR _ _ (newest_rising _) (setGo_rising ordR x _ (newest_rising L)) fun k => ?_
  rw [newest_find (hL.set h hx), setGo_find ordR x k _ (newest_rising L), newest_find hL]
  refine opt_ext fun y => ?_
  rw [find_iff (hL.set h hx), mem_set_keys hL h hx]
  by_cases hk : keyR x = k
  · rw [if_pos hk]
    subst hk
    constructor
    · rintro ⟨rfl | ⟨-, g⟩, e⟩
      · rfl
      · exact absurd e g
    · intro e
      cases e
      exact ⟨.inl rfl, rfl⟩
  · rw [if_neg hk, find_iff hL]
    constructor
    · rintro ⟨rfl | ⟨g, -⟩, e⟩
      · exact absurd e hk
      · exact ⟨g, e⟩
    · rintro ⟨g, e⟩
      exact ⟨.inr ⟨g, fun h => hk (h.symm.trans e)⟩, e⟩

/-! ### Room, reads. -/
def roomR (L : List RecT) (k : ByteArray) : Bool := (findK keyR L k.toList).isSome || roomB (L.map hR ++ [hashS k])
def readsR (L : List RecT) (k : ByteArray) : Nat := L.countP fun x => nearN (hashS k) (hR x)
theorem roomR_newest {L : List RecT} (h : KeysOk L) (k : ByteArray) : roomR (newestR L) k = roomR L k := by
  unfold roomR
  rw [newest_find h, room_perm (((newest_perm h).map hR).append_right _)]
theorem readsR_newest {L : List RecT} (h : KeysOk L) (k : ByteArray) : readsR (newestR L) k = readsR L k := (newest_perm h).countP_eq _
theorem reads_len (L : List RecT) (k : ByteArray) : ((esL L).filter fun e => nearN (hashS k) e.1).length = readsR L k := by
  rw [← List.countP_eq_length_filter]
  unfold readsR
  have e : (esL L).countP (fun e => nearN (hashS k) e.1) = ((esL L).map Prod.fst).countP (nearN (hashS k)) := by rw [List.countP_map]; rfl
  rw [e, esL_fst, List.countP_map]
  rfl
theorem near_self (a : Nat) : nearN a a = true := (near_iff a a).2 rfl
/-- The numbers that are found: those whose record is near. -/
theorem near_mem {L : List RecT} {k : ByteArray} {F : List Int} (hp : F.Perm (((esL L).filter fun e => nearN (hashS k) e.1).map Prod.snd)) (z : Int) : z ∈ F ↔ ∃ i, ∃ h : i < L.length, z = (i : Int) ∧ nearN (hashS k) (hR L[i]) = true := by
  rw [hp.mem_iff, List.mem_map]
  constructor
  · rintro ⟨e, he, rfl⟩
    obtain ⟨hm, hn⟩ := List.mem_filter.1 he
    obtain ⟨i, hi, rfl⟩ := List.getElem_of_mem hm
    have h : i < L.length := by rw [esL_len] at hi; exact hi
    rw [esL_at h] at hn ⊢
    exact ⟨i, h, rfl, hn⟩
  · rintro ⟨i, h, rfl, hn⟩
    refine ⟨(hR L[i], (i : Int)), List.mem_filter.2 ⟨?_, hn⟩, rfl⟩
    rw [← esL_at h]
    exact List.getElem_mem _
/-- A put: the record of its key is x now. -/
def putL (L : List RecT) (x : RecT) : List RecT := match L.findIdx? fun y => decide (keyR y = keyR x) with
  | some i => L.set i x
  | none => L ++ [x]
theorem putL_in {L : List RecT} (hL : KeysOk L) {i : Nat} (h : i < L.length) {x : RecT} (hx : keyR L[i] = keyR x) : putL L x = L.set i x := by
  unfold putL
  have : L.findIdx? (fun y => decide (keyR y = keyR x)) = some i := by
    rw [List.findIdx?_eq_some_iff_getElem]
    refine ⟨h, by simpa using hx, fun j hj => ?_⟩
    simp only [decide_eq_true_eq]
    intro e
    have hn := List.pairwise_map.1 hL
    have := List.pairwise_iff_getElem.1 hn j i (by omega) h hj
    exact this (e.trans hx.symm)
  rw [this]
theorem putL_new {L : List RecT} {x : RecT} (hx : ∀ y ∈ L, keyR y ≠ keyR x) : putL L x = L ++ [x] := by
  unfold putL
  have : L.findIdx? (fun y => decide (keyR y = keyR x)) = none := by
    rw [List.findIdx?_eq_none_iff]
    intro y hy
    simpa using hx y hy
  rw [this]
theorem find_cases {L : List RecT} (k : List UInt8) : (∃ i, ∃ h : i < L.length, keyR L[i] = k) ∨ ∀ y ∈ L, keyR y ≠ k := by
  by_cases h : ∃ y ∈ L, keyR y = k
  · obtain ⟨y, hy, e⟩ := h
    obtain ⟨i, hi, rfl⟩ := List.getElem_of_mem hy
    exact .inl ⟨i, hi, e⟩
  · exact .inr fun y hy e => h ⟨y, hy, e⟩
theorem KeysOk.put {L : List RecT} (hL : KeysOk L) (x : RecT) : KeysOk (putL L x) := by
  rcases find_cases (L := L) (keyR x) with ⟨i, h, e⟩ | h
  · rw [putL_in hL h e]; exact hL.set h e.symm
  · rw [putL_new h]; exact hL.snoc h
theorem newest_put {L : List RecT} (hL : KeysOk L) (x : RecT) : newestR (putL L x) = setR (newestR L) x := by
  rcases find_cases (L := L) (keyR x) with ⟨i, h, e⟩ | h
  · rw [putL_in hL h e]; exact newest_set hL h e.symm
  · rw [putL_new h]; exact newest_snoc L x
theorem find_put {L : List RecT} (hL : KeysOk L) (x : RecT) (k : List UInt8) : findK keyR (putL L x) k = if keyR x = k then some x else findK keyR L k := by
  rw [← newest_find (hL.put x), newest_put hL, setGo_find ordR x k _ (newest_rising L), newest_find hL]

end Go.Proofs.YtkddleonmkhaiaaGreat
