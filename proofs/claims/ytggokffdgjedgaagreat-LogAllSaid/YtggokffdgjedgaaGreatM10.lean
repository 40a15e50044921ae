/-
  The record that is all zero; a record, if there is one.
  Slices of records: contract of the reference's Newest.
  Mathematics of a map that says of each key where it stood last (of no code), and what is the newest of each key.
  What the library's slices.Sorted gives of maps.Keys of a map: its keys, sorted, in a slice of their own (the library's contracts laid at this program; made by gen/SortL.py).
  Package record: contract of Newest.
  Stage 18: Get, Slot, Reads, List.
  Stage 18: room for few; the law's begun.
  The reference's Find.
-/
import Derived.Test.YtggokffdgjedgaaGreatM07
import Derived.Test.YtggokffdgjedgaaGreatM09
import Derived.Test.YtggokffdgjedgaaGreatM04
import Derived.Maps.OwnSet
import Derived.Maps.OwnOps
import Derived.Sort.KeysCollected
import Derived.Shelf.SlGeneric
import Derived.Shelf.SlIter.Nil
import Derived.Shelf.SortM.Plain
import Derived.Shelf.SortM.SortNone
import Derived.Ground.GgzProg
import Derived.Ground.SlgmProg
import Derived.Test.YtggokffdgjedgaaGreatProg
import Derived.LoopTactic
import Derived.Carry
import Derived.Test.YtggokffdgjedgaaGreatM08
import Derived.Test.YtggokffdgjedgaaGreatM05
namespace Go.Proofs.YtggokffdgjedgaaGreat
open Go.RowKit

def nullR : RecT := (⟨#[]⟩, false, 0, 0, ⟨#[]⟩)
/-- A record, if there is one. -/
def outR (o : Option RecT) : Value := .tuple #[recOf (o.getD nullR), .bool o.isSome]
theorem outR_some (x : RecT) : outR (some x) = .tuple #[recOf x, .bool true] := rfl
theorem outR_none : outR none = .tuple #[.agg #[.string ⟨#[]⟩, .bool false, .int .i64 0, .int .i64 0, .string ⟨#[]⟩], .bool false] := rfl

end Go.Proofs.YtggokffdgjedgaaGreat

namespace Go.Proofs.YtggokffdgjedgaaGreat
open Go.RowKit Go.Op

end Go.Proofs.YtggokffdgjedgaaGreat

namespace Go.Proofs.YtggokffdgjedgaaGreat
open Go.Maps

/-- A record's key, as a map's. -/
def klit (x : RecT) : Lit := .string x.1.data.toList
/-- Behind n records. -/
def mapD (H : Type) (l : List RecT) : Nat → DataW H
  | 0 => .map []
  | n + 1 => (mapD H l n).put (klit (l.getD n default)) (.lit (.int .i64 (n : Int)))

theorem keyR_data (x : RecT) : keyR x = x.1.data.toList := by unfold keyR; rw [ByteArray.toList_eq]

section
variable {H : Type} {l : List RecT}
theorem mapD_isMap : ∀ n, IsMap (mapD H l n)
  | 0 => isMap_empty
  | n + 1 => (mapD_isMap n).put _ _
theorem mapD_succ (n : Nat) (h : n < l.length) : mapD H l (n + 1) = (mapD H l n).put (.string l[n].1.data.toList) (.lit (.int .i64 (n : Int))) := by
  rw [mapD]
  unfold klit
  rw [List.getD, List.getElem?_eq_getElem h]
  rfl
theorem mapD_has (k : List UInt8) : ∀ n, n ≤ l.length → (has (mapD H l n) (.string k) = true ↔ ∃ x ∈ l.take n, x.1.data.toList = k)
  | 0, _ => by
    constructor
    · intro h; cases h
    · rintro ⟨x, hx, -⟩; simp at hx
  | n + 1, h => by
    have hlt : n < l.length := h
    have ih := mapD_has k n (by omega)
    rw [mapD_succ n hlt, List.take_succ_eq_append_getElem hlt]
    by_cases e : k = l[n].1.data.toList
    · subst e
      rw [has_put_same (mapD_isMap n) (show WideAt.IsKeyLit (.string _) from trivial)]
      exact ⟨fun _ => ⟨l[n], List.mem_append_right _ (List.mem_singleton.2 rfl), rfl⟩, fun _ => rfl⟩
    · rw [has_put_other (fun h => e (by simpa using h)), ih]
      constructor
      · rintro ⟨x, hx, hk⟩; exact ⟨x, List.mem_append_left _ hx, hk⟩
      · rintro ⟨x, hx, hk⟩
        rcases List.mem_append.1 hx with hx | hx
        · exact ⟨x, hx, hk⟩
        · simp at hx
          subst hx
          exact absurd hk.symm e
theorem mapD_at (k : List UInt8) : ∀ n, n ≤ l.length → has (mapD H l n) (.string k) = true →
    ∃ i, ∃ hi : i < l.length, (∀ z, (mapD H l n).atKey (.string k) z = .lit (.int .i64 (i : Int))) ∧ findK keyR (l.take n).reverse k = some l[i] ∧ keyR l[i] = k
  | 0, _, h => by cases h
  | n + 1, h, hh => by
    have hlt : n < l.length := h
    rw [mapD_succ n hlt] at hh ⊢
    rw [List.take_succ_eq_append_getElem hlt, List.reverse_append]
    by_cases e : k = l[n].1.data.toList
    · refine ⟨n, hlt, fun z => ?_, ?_, (keyR_data _).trans e.symm⟩
      · rw [← e, atKey_put_same (mapD_isMap n) (show WideAt.IsKeyLit (.string _) from trivial)]
      · unfold findK
        simp [keyR_data, e]
    · rw [has_put_other (fun h => e (by simpa using h))] at hh
      obtain ⟨i, hi, h1, h2, h3⟩ := mapD_at k n (by omega) hh
      refine ⟨i, hi, fun z => ?_, ?_, h3⟩
      · rw [atKey_put_other (fun h => e (by simpa using h))]
        exact h1 z
      · unfold findK at h2 ⊢
        rw [List.reverse_singleton, List.singleton_append, List.find?_cons]
        have : ¬ keyR l[n] = k := by rw [keyR_data]; exact fun h => e h.symm
        simp [this, h2]
end

/-- The order of bytes, as the library sorts. -/
theorem less_of_le : ∀ x y : List UInt8, x ≤ y → x ≠ y → Go.Op.bytesLess x y = true := by
  intro x y h hne
  rcases less_tri x y with g | g | g
  · exact g
  · exact absurd g hne
  · exfalso
    have hlt : ∀ x y : List UInt8, Go.Op.bytesLess x y = true → x < y := by
      intro x
      induction x with
      | nil =>
        intro y h
        cases y with
        | nil => cases h
        | cons b y => exact List.nil_lt_cons ..
      | cons a x ih =>
        intro y h
        cases y with
        | nil => cases h
        | cons b y =>
          simp only [Go.Op.bytesLess, Bool.or_eq_true, decide_eq_true_eq, Bool.and_eq_true, beq_iff_eq] at h
          rw [List.cons_lt_cons_iff]
          rcases h with h | ⟨rfl, h⟩
          · exact .inl h
          · exact .inr ⟨rfl, ih y h⟩
    exact absurd (hlt y x g) (List.not_lt.2 h)

/-- Of each key of a sorted row of all keys the record that stood last. -/
def pickR (l : List RecT) (k : List UInt8) : RecT := (findK keyR l.reverse k).getD default

theorem newest_of_keys (l : List RecT) (ss : List (List UInt8)) (hs : ss.Nodup) (hm : ∀ k, k ∈ ss ↔ ∃ x ∈ l, x.1.data.toList = k) :
    (ss.mergeSort (fun x y => decide (x ≤ y))).map (pickR l) = newestR l := by
  have hp : ∀ k, k ∈ ss.mergeSort (fun x y => decide (x ≤ y)) ↔ ∃ x ∈ l, x.1.data.toList = k := fun k => ((List.mergeSort_perm ss _).mem_iff).trans (hm k)
  have hnd : (ss.mergeSort (fun x y => decide (x ≤ y))).Nodup := (List.mergeSort_perm ss _).nodup_iff.2 hs
  have hpw := List.pairwise_mergeSort (le := fun x y : List UInt8 => decide (x ≤ y)) (fun a b c h1 h2 => by simp only [decide_eq_true_eq] at *; exact List.le_trans h1 h2) (fun a b => by simp only [Bool.or_eq_true, decide_eq_true_eq]; exact List.le_total a b) ss
  generalize ss.mergeSort (fun x y => decide (x ≤ y)) = ks at *
  have hk : ∀ k ∈ ks, ∃ x, findK keyR l.reverse k = some x ∧ keyR x = k := by
    intro k h
    obtain ⟨x, hx, hxk⟩ := (hp k).1 h
    have hsome : (findK keyR l.reverse k).isSome = true := List.find?_isSome.2 ⟨x, by simpa using hx, by simp [keyR_data, hxk]⟩
    obtain ⟨y, hy⟩ := Option.isSome_iff_exists.1 hsome
    have hy2 := List.find?_some hy
    exact ⟨y, hy, by simpa using hy2⟩
  have hpick : ∀ k ∈ ks, findK keyR l.reverse k = some (pickR l k) ∧ keyR (pickR l k) = k := by
    intro k h
    obtain ⟨x, h1, h2⟩ := hk k h
    unfold pickR
    rw [h1]
    exact ⟨rfl, h2⟩
  refine newestK_of ordR l _ ?_ fun k => ?_
  · unfold Rising
    rw [List.pairwise_map]
    refine (hpw.and hnd).imp_of_mem ?_
    intro a b ha hb h
    rw [(hpick a ha).2, (hpick b hb).2]
    exact less_of_le a b (by simpa using h.1) h.2
  · by_cases hin : k ∈ ks
    · rw [(hpick k hin).1]
      unfold findK
      have : ∀ ks : List (List UInt8), k ∈ ks → (∀ k' ∈ ks, keyR (pickR l k') = k') → List.find? (fun x => decide (keyR x = k)) (ks.map (pickR l)) = some (pickR l k) := by
        intro ks
        induction ks with
        | nil => intro h _; cases h
        | cons a t ih =>
          intro h hh
          rw [List.map_cons, List.find?_cons, hh a (List.mem_cons_self ..)]
          by_cases ha : a = k
          · subst ha; simp
          · simp only [ha, decide_false]
            exact ih (by rcases List.mem_cons.1 h with h | h; exact absurd h.symm ha; exact h) fun k' hk' => hh k' (List.mem_cons_of_mem _ hk')
      exact this ks hin fun k' hk' => (hpick k' hk').2
    · have h1 : findK keyR l.reverse k = none := by
        unfold findK
        rw [List.find?_eq_none]
        intro x hx
        simp only [decide_eq_true_eq]
        intro e
        exact hin ((hp k).2 ⟨x, by simpa using hx, by rw [← keyR_data]; exact e⟩)
      rw [h1]
      unfold findK
      rw [List.find?_eq_none]
      intro x hx
      obtain ⟨k', hk', rfl⟩ := List.mem_map.1 hx
      simp only [decide_eq_true_eq]
      rw [(hpick k' hk').2]
      rintro rfl
      exact hin hk'

section
variable {H : Type} {P : Program} {k : TypeId} {R : Value → Option (DataW H × List MemPlace)} {w : World} {b n : Nat} {l : List RecT}
/-- The keys that stand in the map. -/
theorem strKeys_mapD (hown : w.ownsMap P k R b n (mapD H l l.length)) (K : Keyed P k) (hk : P.underlying k = some .string) :
    (strKeys (mapD H l l.length)).Nodup ∧ ∀ x, x ∈ strKeys (mapD H l l.length) ↔ ∃ y ∈ l, y.1.data.toList = x := by
  obtain ⟨es, hD, hpw, -⟩ := hown.entries K
  obtain ⟨es', hD', hko⟩ := hown.keysOf
  obtain rfl : es = es' := by rw [hD] at hD'; simpa using hD'
  have hstr : ∀ p ∈ es, ∃ x, p.1 = .string x := fun p hp => by
    obtain ⟨v, hv⟩ := hko p hp
    obtain ⟨x, -, hx, -⟩ := Maps.keyOf_str hk hv
    exact ⟨x, hx⟩
  have hh := fun x => mapD_has (H := H) (l := l) x l.length (Nat.le_refl _)
  rw [List.take_of_length_le (Nat.le_refl _)] at hh
  rw [hD] at hh ⊢
  refine ⟨?_, fun x => (Iff.trans ?_ (hh x))⟩
  · show (es.map fun p => strOf p.1).Nodup
    refine List.pairwise_map.2 (hpw.imp_of_mem fun {p q} hp' hq' hne e => hne ?_)
    obtain ⟨a, ha⟩ := hstr p hp'
    obtain ⟨c, hc⟩ := hstr q hq'
    rw [ha, hc] at e ⊢
    exact congrArg _ e
  · rw [has_eq, List.any_eq_true]
    show x ∈ (es.map fun p => strOf p.1) ↔ _
    rw [List.mem_map]
    constructor
    · rintro ⟨p, hp', rfl⟩
      obtain ⟨a, ha⟩ := hstr p hp'
      exact ⟨p, hp', by rw [ha]; simp [Lit.sameKey, strOf]⟩
    · rintro ⟨p, hp', hs⟩
      obtain ⟨a, ha⟩ := hstr p hp'
      rw [ha] at hs
      exact ⟨p, hp', by rw [ha]; simpa [Lit.sameKey, strOf] using hs⟩
end

end Go.Proofs.YtggokffdgjedgaaGreat

namespace Go.Proofs.YtggokffdgjedgaaGreat
open Go.RowKit Go.Maps Go.Sort Go.Shelf
def keysL_ren : Go.Shelf.Ren := ⟨fun | 7 => 60 | 10 => 72 | n => n, fun | 23 => 104 | 26 => 9 | 3 => 3 | 28 => 107 | 0 => 0 | 27 => 106 | 33 => 55 | 4 => 4 | n => n, fun | n => n⟩
theorem keysL : Go.Proofs.SlLaysZ.n7 Tryz.prog keysL_ren := {
  mixed := by kernel_rfl
  f7 := ⟨Tryz.f60.name, by decide, Tryz.func60.trans (congrArg some (by kernel_rfl))⟩
  f10 := ⟨Tryz.f72.name, by decide, Tryz.func72.trans (congrArg some (by kernel_rfl))⟩
  t0 := Tryz.underlying0
  a0 := Tryz.isAgg0
  z0 := Tryz.sizeOf0
  v0 := Tryz.zeroValue0
  t4 := Tryz.underlying4
  a4 := Tryz.isAgg4
  z4 := Tryz.sizeOf4
  v4 := Tryz.zeroValue4
  t23 := Tryz.underlying104
  a23 := Tryz.isAgg104
  z23 := Tryz.sizeOf104
  v23 := Tryz.zeroValue104
  t26 := Tryz.underlying9
  a26 := Tryz.isAgg9
  z26 := Tryz.sizeOf9
  v26 := Tryz.zeroValue9
  t27 := Tryz.underlying106
  a27 := Tryz.isAgg106
  z27 := Tryz.sizeOf106
  v27 := Tryz.zeroValue106
  t28 := Tryz.underlying107
  a28 := Tryz.isAgg107
  z28 := Tryz.sizeOf107
  v28 := Tryz.zeroValue107
  t33 := Tryz.underlying55
  a33 := Tryz.isAgg55
  z33 := Tryz.sizeOf55
  v33 := Tryz.zeroValue55 }
def sortedL_ren : Go.Shelf.Ren := ⟨fun | 6 => 59 | 8 => 70 | 9 => 71 | 11 => 85 | 13 => 69 | 12 => 86 | 23 => 83 | 24 => 84 | 14 => 94 | 15 => 95 | 16 => 96 | 17 => 97 | 18 => 98 | 19 => 99 | 20 => 100 | 21 => 101 | 22 => 102 | 25 => 105 | 26 => 89 | 27 => 90 | 28 => 106 | 29 => 107 | 30 => 108 | 31 => 110 | n => n, fun | 26 => 9 | 28 => 107 | 24 => 103 | 0 => 0 | 3 => 3 | 37 => 86 | 48 => 138 | 50 => 58 | 4 => 4 | 40 => 130 | 39 => 129 | 45 => 135 | 5 => 5 | 9 => 9 | 51 => 141 | 55 => 145 | 57 => 153 | 58 => 93 | 33 => 55 | n => n, fun | n => n⟩
theorem sortedL : Go.Proofs.SlLaysZ.n6 Tryz.prog sortedL_ren := {
  mixed := by kernel_rfl
  f6 := ⟨Tryz.f59.name, by decide, Tryz.func59.trans (congrArg some (by kernel_rfl))⟩
  f8 := ⟨Tryz.f70.name, by decide, Tryz.func70.trans (congrArg some (by kernel_rfl))⟩
  f11 := ⟨Tryz.f85.name, by decide, Tryz.func85.trans (congrArg some (by kernel_rfl))⟩
  t0 := Tryz.underlying0
  a0 := Tryz.isAgg0
  z0 := Tryz.sizeOf0
  v0 := Tryz.zeroValue0
  t24 := Tryz.underlying103
  a24 := Tryz.isAgg103
  z24 := Tryz.sizeOf103
  v24 := Tryz.zeroValue103
  t26 := Tryz.underlying9
  a26 := Tryz.isAgg9
  z26 := Tryz.sizeOf9
  v26 := Tryz.zeroValue9
  t28 := Tryz.underlying107
  a28 := Tryz.isAgg107
  z28 := Tryz.sizeOf107
  v28 := Tryz.zeroValue107
  i26 := by kernel_rfl }
def sortL_ren : Go.Shelf.Ren := ⟨fun | 6 => 71 | 8 => 69 | 9 => 86 | 19 => 83 | 20 => 84 | 21 => 94 | 22 => 95 | 23 => 96 | 24 => 97 | 25 => 98 | 26 => 99 | 27 => 100 | 28 => 101 | 29 => 102 | 36 => 105 | 31 => 89 | 32 => 90 | 37 => 106 | 38 => 107 | 39 => 108 | 41 => 110 | n => n, fun | 27 => 103 | 29 => 9 | 3 => 3 | 32 => 86 | 26 => 103 | 0 => 0 | 44 => 138 | 46 => 58 | 4 => 4 | 36 => 130 | 35 => 129 | 41 => 135 | 5 => 5 | 9 => 9 | 53 => 141 | 57 => 145 | 63 => 153 | 64 => 93 | n => n, fun | n => n⟩
theorem sortL : Go.Proofs.SlLaysM.n6 Tryz.prog sortL_ren := {
  mixed := by kernel_rfl
  f6 := ⟨Tryz.f71.name, by decide, Tryz.func71.trans (congrArg some (by kernel_rfl))⟩
  f8 := Tryz.func69.trans (congrArg some (by kernel_rfl))
  f9 := ⟨Tryz.f86.name, by decide, Tryz.func86.trans (congrArg some (by kernel_rfl))⟩
  f19 := Tryz.func83.trans (congrArg some (by kernel_rfl))
  f20 := Tryz.func84.trans (congrArg some (by kernel_rfl))
  f21 := ⟨Tryz.f94.name, by decide, Tryz.func94.trans (congrArg some (by kernel_rfl))⟩
  f22 := ⟨Tryz.f95.name, by decide, Tryz.func95.trans (congrArg some (by kernel_rfl))⟩
  f23 := ⟨Tryz.f96.name, by decide, Tryz.func96.trans (congrArg some (by kernel_rfl))⟩
  f24 := ⟨Tryz.f97.name, by decide, Tryz.func97.trans (congrArg some (by kernel_rfl))⟩
  f25 := ⟨Tryz.f98.name, by decide, Tryz.func98.trans (congrArg some (by kernel_rfl))⟩
  f26 := ⟨Tryz.f99.name, by decide, Tryz.func99.trans (congrArg some (by kernel_rfl))⟩
  f27 := ⟨Tryz.f100.name, by decide, Tryz.func100.trans (congrArg some (by kernel_rfl))⟩
  f28 := ⟨Tryz.f101.name, by decide, Tryz.func101.trans (congrArg some (by kernel_rfl))⟩
  f29 := ⟨Tryz.f102.name, by decide, Tryz.func102.trans (congrArg some (by kernel_rfl))⟩
  f31 := Tryz.func89.trans (congrArg some (by kernel_rfl))
  f32 := Tryz.func90.trans (congrArg some (by kernel_rfl))
  f36 := ⟨Tryz.f105.name, by decide, Tryz.func105.trans (congrArg some (by kernel_rfl))⟩
  f37 := ⟨Tryz.f106.name, by decide, Tryz.func106.trans (congrArg some (by kernel_rfl))⟩
  f38 := ⟨Tryz.f107.name, by decide, Tryz.func107.trans (congrArg some (by kernel_rfl))⟩
  f39 := ⟨Tryz.f108.name, by decide, Tryz.func108.trans (congrArg some (by kernel_rfl))⟩
  f41 := ⟨Tryz.f110.name, by decide, Tryz.func110.trans (congrArg some (by kernel_rfl))⟩
  t0 := Tryz.underlying0
  a0 := Tryz.isAgg0
  z0 := Tryz.sizeOf0
  v0 := Tryz.zeroValue0
  t3 := Tryz.underlying3
  a3 := Tryz.isAgg3
  z3 := Tryz.sizeOf3
  v3 := Tryz.zeroValue3
  t4 := Tryz.underlying4
  a4 := Tryz.isAgg4
  z4 := Tryz.sizeOf4
  v4 := Tryz.zeroValue4
  t5 := Tryz.underlying5
  a5 := Tryz.isAgg5
  z5 := Tryz.sizeOf5
  v5 := Tryz.zeroValue5
  t9 := Tryz.underlying9
  a9 := Tryz.isAgg9
  z9 := Tryz.sizeOf9
  v9 := Tryz.zeroValue9
  t26 := Tryz.underlying103
  a26 := Tryz.isAgg103
  z26 := Tryz.sizeOf103
  v26 := Tryz.zeroValue103
  t27 := Tryz.underlying103
  a27 := Tryz.isAgg103
  z27 := Tryz.sizeOf103
  v27 := Tryz.zeroValue103
  t29 := Tryz.underlying9
  a29 := Tryz.isAgg9
  z29 := Tryz.sizeOf9
  v29 := Tryz.zeroValue9
  t32 := Tryz.underlying86
  a32 := Tryz.isAgg86
  z32 := Tryz.sizeOf86
  v32 := Tryz.zeroValue86
  t35 := Tryz.underlying129
  a35 := Tryz.isAgg129
  z35 := Tryz.sizeOf129
  v35 := Tryz.zeroValue129
  t36 := Tryz.underlying130
  a36 := Tryz.isAgg130
  z36 := Tryz.sizeOf130
  v36 := Tryz.zeroValue130
  t41 := Tryz.underlying135
  a41 := Tryz.isAgg135
  z41 := Tryz.sizeOf135
  v41 := Tryz.zeroValue135
  t44 := Tryz.underlying138
  a44 := Tryz.isAgg138
  z44 := Tryz.sizeOf138
  v44 := Tryz.zeroValue138
  t46 := Tryz.underlying58
  a46 := Tryz.isAgg58
  z46 := Tryz.sizeOf58
  v46 := Tryz.zeroValue58
  t53 := Tryz.underlying141
  a53 := Tryz.isAgg141
  z53 := Tryz.sizeOf141
  v53 := Tryz.zeroValue141
  t57 := Tryz.underlying145
  a57 := Tryz.isAgg145
  z57 := Tryz.sizeOf145
  v57 := Tryz.zeroValue145
  t63 := Tryz.underlying153
  a63 := Tryz.isAgg153
  z63 := Tryz.sizeOf153
  v63 := Tryz.zeroValue153
  t64 := Tryz.underlying93
  a64 := Tryz.isAgg93
  z64 := Tryz.sizeOf93
  v64 := Tryz.zeroValue93 }

theorem sorts_any (m : Nat) : AnyZ.SortsIn Tryz.prog sortedL_ren Fence.wide m :=
  ⟨fun blk off cap ss W hH hblk hsz => callsIn_wide.2 (AnyM.slices_Sort_string sortL blk off cap ss W hH hblk hsz),
   fun p cap W => callsIn_wide.2 (AnyM.slices_Sort_string_none sortL p cap W)⟩

/-- maps.Keys: a function over a new block that holds the map. -/
theorem mkeys_c (b : Nat) (W : World) : Calls Tryz.prog 60 #[.map (some b)] W fun e w' => e = .returned (.func (.func 72) #[] #[.pointer (some ⟨W.heap.size, 0, none⟩)]) ∧ w' = W.alloc (.cells #[.map (some b)] 104) :=
  callsIn_wide.1 (AnyZ.keys_in keysL Fence.wide 5 trivial rfl (some b) W)

set_option maxHeartbeats 1000000 in
/-- slices.Sorted of what maps.Keys answered. -/
theorem sortedk_c {H : Type} (b nn : Nat) (D0 : DataW H) (R : Value → Option (DataW H × List MemPlace)) (w : World) (hown : w.ownsMap Tryz.prog 9 R b nn D0) (hmax : Maps.size D0 ≤ maxLen) (hbytes : Maps.size D0 * 16 ≤ 140737488355328) :
    Calls Tryz.prog 59 #[.func (.func 72) #[] #[.pointer (some ⟨w.heap.size, 0, none⟩)]] (w.alloc (.cells #[.map (some b)] 104)) fun e w' => ∃ (v : Value) (ss : List (List UInt8)), e = .returned v ∧ ss.Perm (strKeys D0) ∧
      w'.ownsRow (w.alloc (.cells #[.map (some b)] 104)).heap.size 9 1 v ss.length ((ss.mergeSort (fun x y => decide (x ≤ y))).map encStr) ∧ Below (w.alloc (.cells #[.map (some b)] 104)).heap.size (w.alloc (.cells #[.map (some b)] 104)) w' := by
  have hbl := hown.lt
  have hseq : SeqGives Fence.wide 2 Tryz.prog 72 #[.pointer (some ⟨w.heap.size, 0, none⟩)] encStr (fun ss => ss.Perm (strKeys D0)) (Maps.size D0) (w.alloc (.cells #[.map (some b)] 104)) :=
    AnyZ.keys_gives (ρ := keysL_ren) { keysL with } Fence.wide _ trivial rfl (by omega) w.heap.size b nn D0 _ (by simp) (by simp) (by
      obtain ⟨es, clock, hb, Ft, hs, hD⟩ := hown
      exact ⟨es, clock, (Below.heap_alloc _ _ b hbl).trans hb, Ft, hs, hD⟩)
  have h := AnyZ.sorted_in sortedL Fence.wide 5 trivial trivial trivial trivial rfl (by omega) (sorts_any _) (enters_of Tryz.func71 (by kernel_rfl) rfl) 72 #[.pointer (some ⟨w.heap.size, 0, none⟩)] trivial (enters_of Tryz.func72 (by kernel_rfl) rfl) _ _ hmax hbytes _ hseq
  refine (callsIn_wide.1 h).mono ?_
  rintro e w' ⟨v, ss, he, hp, hrow, -, hb⟩
  exact ⟨v, ss, he, hp, hrow, hb⟩

end Go.Proofs.YtggokffdgjedgaaGreat

namespace Go.Proofs.YtggokffdgjedgaaGreat
open Go.RowKit Go.Op Go.Maps Go.WideMaps

theorem mlaw : Keyed Tryz.prog 9 := string_keyed Tryz.underlying9
theorem mzero (w : World) : (zeroValue 3).run Tryz.prog w = .ok (.int .i64 0) w := by kernel_rfl

theorem grown_then {w w1 w2 : World} {row : Option Nat} (h : w.grownBy w1 row) (hb : Below w1.heap.size w1 w2) : w.grownBy w2 row :=
  ⟨hb.os.trans h.os, hb.tape.trans h.tape, hb.output.trans h.output, Nat.le_trans h.size hb.size, fun k hk hne => (hb.block k (Nat.lt_of_lt_of_le hk h.size)).trans (h.block k hk hne)⟩

/-- A sorted row of keys, as the walk reads it. -/
theorem keys_row {w : World} {B n : Nat} {v : Value} {ks : List (List UInt8)} (hn : ks.length = n) (h : w.ownsRow B 9 1 v n (ks.map Go.Proofs.encStr)) :
    ∃ a cap, v = .slice a n cap ∧ ∀ j (hj : j < ks.length), ∃ g, a = some ⟨g, 0, none⟩ ∧ B ≤ g ∧ w.cell? ⟨g, j, none⟩ = some (.string (str ks[j])) := by
  subst hn
  rcases h.2 with ⟨rfl, hz⟩ | ⟨g, cap, cur, rfl, hB, h1⟩
  · obtain rfl : ks = [] := List.eq_nil_of_length_eq_zero hz
    exact ⟨none, 0, rfl, fun j hj => absurd hj (by simp)⟩
  · refine ⟨_, cap, rfl, fun j hj => ⟨g, rfl, hB, ?_⟩⟩
    rw [World.ownsRow.cellAt h j (by omega), List.getElem?_map, List.getElem?_eq_getElem hj]
    rfl

/-- One record in a new block. -/
theorem rc5_new (W : World) (x : RecT) : ∀ (q : Nat) (u : Value), (rc5 x)[q]? = some u → (W.alloc (.cells #[.string x.1, .bool x.2.1, .int .i64 x.2.2.1, .int .i64 x.2.2.2.1, .string x.2.2.2.2] 33)).cell? ((⟨W.heap.size, 0, none⟩ : Addr).add q) = some u := by
  intro q u h
  have hadd : (⟨W.heap.size, 0, none⟩ : Addr).add q = ⟨W.heap.size, 0 + q, none⟩ := by unfold Addr.add; split <;> simp_all
  rw [hadd, Nat.zero_add]
  rw [cell_of_row _ W.heap.size q _ _ _ (heap_alloc_new W (.cells #[.string x.1, .bool x.2.1, .int .i64 x.2.2.1, .int .i64 x.2.2.2.1, .string x.2.2.2.2] 33))]
  rw [← h]
  unfold rc5
  exact List.getElem?_toArray
theorem rc5_one (x : RecT) : ∀ u ∈ rc5 x, u.oneCell' = true := by
  intro u hu
  simp only [rc5, List.mem_cons, List.not_mem_nil, or_false] at hu
  rcases hu with rfl | rfl | rfl | rfl | rfl <;> rfl
theorem own_snoc {w : World} {B j : Nat} {v : Value} {acc : List RecT} {x : RecT} (hal : acc.length = j) (h : w.ownsRow B 33 5 v (j + 1) (flat5 acc ++ rc5 x)) : OwnRec w B v (acc ++ [x]) := by
  subst hal
  unfold OwnRec
  rw [List.length_append]
  unfold flat5 at *
  rw [List.flatMap_append]
  simpa using h

set_option maxHeartbeats 4000000 in
set_option maxRecDepth 100000 in
theorem pnewest_c (v : Value) (l : List RecT) (w : World) (hv : RS w v l) (hl : l.length ≤ 1000) (hs : ∀ x ∈ l, x.1.size ≤ 1000 ∧ x.2.2.2.2.size ≤ 1000) :
    Calls Tryz.prog 41 #[v] w fun e w' => ∃ v', e = .returned v' ∧ OwnRec w' w.heap.size v' (newestR l) ∧ Below w.heap.size w w' := by
  obtain ⟨a, cap, rfl, hm⟩ := hv.form
  have HR := Go.Lib.hid hv; clear hv
  have hmm := @run_makeMap Tryz.prog
  obtain ⟨i5, hi5, hz5, hsz5, hby5⟩ := info_parts info5
  have I5 := Go.Lib.hid (And.intro hi5 (And.intro hz5 (And.intro hsz5 hby5))); clear hi5 hz5 hsz5 hby5
  go_enter Tryz.func41, Tryz.ntmps41
  go_wp2_with fail
  go_loopw [12] (fun i wr => ∃ k : Nat, k ≤ l.length ∧ i = .int .i64 (k : Int) ∧ wr.ownsMap Tryz.prog 9 (plainElem Tryz.prog 3) w.heap.size k (mapD Unit l k) ∧ Below w.heap.size w wr) (fun i _ => l.length - (intOf i).toNat)
  case atStart => exact ⟨0, Nat.zero_le _, rfl, World.ownsMap_made _ _ _ _, (Below.refl _ _).alloc (Nat.le_refl _) _⟩
  case round =>
    obtain ⟨k, hk, rfl, hown, hbc⟩ := hrel
    by_cases hlt : k < l.length
    · obtain ⟨b, o, rfl, -, hbs, c0, c1, c2, c3, c4⟩ := (HR.out.below hbc).at k hlt
      have hx := (hs l[k] (List.getElem_mem hlt)).1
      have Hst := Go.Lib.hid (mapD_succ (H := Unit) k hlt)
      have hix := run_idx5 b o l.length cap k hlt
      generalize l[k] = x at *
      obtain ⟨kx, gx, ax, nx, sx⟩ := x
      simp only [] at c0 c1 c2 c3 c4 hx Hst
      have hkey : keyOf Tryz.prog 9 (.string kx) = some (.string kx.data.toList) := keyOf_string_mk Tryz.underlying9 (by unfold maxLen; omega)
      have hwf : (Lit.int .i64 (k : Int)).wf = true := by
        rw [show (k : Int) = wrap64 (k : Int) from by unfold wrap64; omega]
        exact wrap64_wf _
      have hown2 := hown.alloc (.cells #[.string kx, .bool gx, .int .i64 ax, .int .i64 nx, .string sx] 33)
      have hbc2 := hbc.trans ((below_one wr (.cells #[.string kx, .bool gx, .int .i64 ax, .int .i64 nx, .string sx] 33)).mono hbc.size)
      have Hown := Go.Lib.hid hown2
      have Hk := Go.Lib.hid (And.intro hkey hwf)
      clear hx hown hown2 hkey hwf
      go_wp2_with (first
        | (at_mapUpdate; refine wpList_mapUpdate_own _ rfl _ _ _ 104 rfl 9 3 mlaw Tryz.underlying104 _ w.heap.size k _ rfl Hown.out (by unfold maxLen; omega) _ _ _ rfl rfl Hk.out.1 _ [] (plainElem_int Tryz.underlying3 Hk.out.2) ?_; intro w1 hown1 hgrow1)
        | fail)
      rw [← Hst.out] at hown1
      have hbc3 := hbc2.grown hgrow1 hbc2.size (fun j hj => by cases hj; exact Nat.le_refl _)
      clear hgrow1 Hown Hk Hst c0 c1 c2 c3 c4 hbc hbc2 hix
      go_wp2_with fail
      exact ⟨⟨k + 1, by omega, by go_num, hown1, hbc3⟩, by simp only [intOf]; omega⟩
    · obtain rfl : k = l.length := by omega
      have hsz := hown.size_le
      have hlen := fun ty => hown.len Tryz.underlying104 ty
      have hG0 := hown.lt
      obtain ⟨hnd, hmem⟩ := strKeys_mapD hown mlaw Tryz.underlying9
      have hat := fun k h => mapD_at (H := Unit) (l := l) k l.length (Nat.le_refl _) h
      have hhas := fun k => mapD_has (H := Unit) (l := l) k l.length (Nat.le_refl _)
      rw [List.take_of_length_le (Nat.le_refl _)] at hat hhas
      have hkl : (strKeys (mapD Unit l l.length)).length = Maps.size (mapD Unit l l.length) := by
        obtain ⟨es, hD, -⟩ := hown.entries mlaw
        rw [hD]
        simp [strKeys, Maps.size]
      have hone := fun (j : Nat) (hj : j < l.length) => hs l[j] (List.getElem_mem hj)
      generalize hD : mapD Unit l l.length = D at *
      obtain ⟨M, hM⟩ : ∃ M, M = Maps.size D := ⟨_, rfl⟩
      rw [← hM] at hlen hsz hkl
      have HM := Go.Lib.hid hM; clear hM
      have Hat := Go.Lib.hid hat; clear hat
      have Hhas := Go.Lib.hid hhas; clear hhas
      have Hmem := Go.Lib.hid hmem; clear hmem
      have Hone := Go.Lib.hid hone; clear hone hs
      have Hkl := Go.Lib.hid hkl; clear hkl
      have Hnd := Go.Lib.hid hnd; clear hnd
      clear hD
      go_wp2_with (first
        | (with_reducible show wpList _ _ _ (⟨some 24, _, _, _, _, _⟩ :: _) _ _; go_loud (refine wpList_make_own _ rfl _ _ 22 rfl w.heap.size 33 i5 _ 5 Tryz.underlying22 I5.out.1 I5.out.2.1 I5.out.2.2.1 .i64 .i64 _ M rfl rfl rfl (by rw [I5.out.2.2.2]; omega) (by unfold maxLen; omega) hbc.size ?_); intro w2 hrow2 hg2)
        | fail)
      have hbc2 := hbc.grown hg2 hbc.size (fun j hj => by cases hj)
      have hown2 := hown.kept hg2 (by simp)
      have hG2 := (World.ownsRow.lt hrow2 wr.heap.size rfl).2
      have C2 := Go.Lib.hid (sortedk_c w.heap.size l.length D (plainElem Tryz.prog 3) w2 hown2 (by rw [← HM.out]; unfold maxLen; omega) (by rw [← HM.out]; omega))
      refine (mkeys_c w.heap.size w2).mono ?_
      rintro e w3 ⟨rfl, rfl⟩
      go_wp2_with fail
      refine C2.out.mono ?_
      rintro e w3 ⟨vs, ss, rfl, hp, hks, hb3⟩
      have hnew := newest_of_keys l ss (hp.nodup_iff.2 Hnd.out) (fun k => (hp.mem_iff).trans (Hmem.out k))
      have hml : M = ss.length := Hkl.out.symm.trans hp.length_eq.symm
      have hksl : (ss.mergeSort (fun x y => decide (x ≤ y))).length = M := (List.length_mergeSort ss).trans hml.symm
      have hin : ∀ k ∈ ss.mergeSort (fun x y => decide (x ≤ y)), Maps.has D (.string k) = true := fun k hk => (Hhas.out k).2 ((Hmem.out k).1 (hp.mem_iff.1 ((List.mergeSort_perm ss _).mem_iff.1 hk)))
      rw [← hml] at hks
      have hg3 := grown_then (World.grownBy_alloc w2 (.cells #[.map (some w.heap.size)] 104) none) hb3
      have hown3 := hown2.kept hg3 (by simp)
      have hbc3 := hbc2.grown hg3 hbc2.size (fun j hj => by cases hj)
      have hrec3 : OwnRec w3 w.heap.size (.slice (some ⟨wr.heap.size, 0, none⟩) 0 M) [] := OwnRec.kept (l := []) hrow2 hg3 (.inr (by simp [Value.ownBlock]))
      have hnB : wr.heap.size < (w2.alloc (.cells #[.map (some w.heap.size)] 104)).heap.size := by simp; omega
      generalize ss.mergeSort (fun x y => decide (x ≤ y)) = ks at *
      obtain ⟨a2, cap2, rfl, hrow⟩ := keys_row hksl hks
      have hfit : M ≤ M := Nat.le_refl _
      have Hnew := Go.Lib.hid hnew; clear hnew
      have Hin := Go.Lib.hid hin; clear hin
      have Hrow := Go.Lib.hid hrow; clear hrow
      have Hown3 := Go.Lib.hid hown3; clear hown3
      clear hlen hks hp hb3 hg3 hrow2 hown2 hbc2 hg2 C2 hown hbc hml Hnd Hmem Hhas Hkl hmm hfit
      have hksM := Go.Lib.hid hksl; clear hksl
      generalize wr.heap.size = G0 at *
      go_wp2_with fail
      go_loopw [6, 29] (fun vb i w4 => ∃ j : Nat, j ≤ M ∧ i = .int .i64 (j : Int) ∧ vb = .slice (some ⟨G0, 0, none⟩) j M ∧ OwnRec w4 w.heap.size vb ((ks.take j).map (pickR l)) ∧ w3.grownBy w4 (some G0)) (fun _ i _ => M - (intOf i).toNat)
      case atStart => exact ⟨0, by omega, rfl, rfl, by simpa using hrec3, World.grownBy.refl _ _⟩
      case round =>
        obtain ⟨j, hj, rfl, rfl, hown, hg⟩ := hrel
        by_cases hlt : j < M
        · have hjk : j < ks.length := by rw [hksM.out]; exact hlt
          obtain ⟨g, rfl, hgB, hkc⟩ := Hrow.out j hjk
          have hkc4 := hg.cell hkc (by simp; omega)
          have hown4 := Hown3.out.kept hg (by simp; omega)
          have hb4 := hbc3.grown hg hbc3.size (fun j hj => by cases hj; omega)
          obtain ⟨i, hi, hati, hfind, hkk⟩ := Hat.out ks[j] (Hin.out _ (List.getElem_mem hjk))
          have hones := Hone.out i hi
          have hkeyOf : keyOf Tryz.prog 9 (.string (str ks[j])) = some (.string ks[j]) := by
            have h := keyOf_string_mk (P := Tryz.prog) Tryz.underlying9 (s := str ks[j]) (by
              have h1 := hones.1
              have h2 : ks[j].length = l[i].1.size := by rw [← hkk, keyR_data]; exact Array.length_toList
              rw [str_size, h2]
              unfold maxLen
              omega)
            rw [h]
            simp [str]
          obtain ⟨c, hrun, hatc, -⟩ := hown4.lookup_int mlaw Tryz.underlying104 Tryz.underlying3 (mzero _) hkeyOf
          obtain rfl : (i : Int) = c := by
            have h := (hati (.lit (.int .i64 0))).symm.trans hatc
            injection h with h
            injection h
          have hsn : (ks.take (j + 1)).map (pickR l) = (ks.take j).map (pickR l) ++ [l[i]] := by
            rw [List.take_succ_eq_append_getElem hjk, List.map_append]
            unfold pickR
            simp [hfind]
          have hal : ((ks.take j).map (pickR l)).length = j := by rw [List.length_map, List.length_take]; omega
          obtain ⟨b, o, rfl, -, hbs, c0, c1, c2, c3, c4⟩ := (HR.out.below hb4).at i hi
          have hix := run_idx5 b o l.length cap i hi
          have Hsn := Go.Lib.hid hsn; clear hsn
          generalize (ks.take j).map (pickR l) = acc at *
          clear hatc hati hfind hkk hkeyOf
          generalize l[i] = x at *
          obtain ⟨kx, gx, ax, nx, sx⟩ := x
          simp only [] at c0 c1 c2 c3 c4 hones Hsn
          have C1 := Go.Lib.hid fun W => frec_c kx gx ax nx sx W (by omega) (by omega)
          unfold recV at C1
          generalize str ks[j] = kj at *
          have Hown := Go.Lib.hid hown; clear hown hown4
          have hgb := Go.Lib.hid hgB
          clear hones
          go_wp2_with fail
          refine (C1.out _).mono ?_
          rintro e w5 ⟨rfl, hc⟩
          have hg5 := grown_then (grown_then hg hc) (below_one w5 (.cells #[.string kx, .bool gx, .int .i64 ax, .int .i64 nx, .string sx] 33))
          have hown5 := (Hown.out.below hc).below (below_one w5 (.cells #[.string kx, .bool gx, .int .i64 ax, .int .i64 nx, .string sx] 33))
          have hrc := rc5_new w5 (kx, gx, ax, nx, sx)
          simp only [] at hrc
          unfold OwnRec at hown5
          rw [hal] at hown5
          have Hg5 := Go.Lib.hid hg5
          have Hrc := Go.Lib.hid hrc
          have Hown5 := Go.Lib.hid hown5
          clear hg5 hown5 hrc hc hg C1 Hown c0 c1 c2 c3 c4 hkc4 hkc hrun hix hb4
          go_wp2_with (first
            | (with_reducible show wpList _ _ _ (⟨some 42, _, _, _, _, _⟩ :: _) _ _; go_loud (refine wpList_append_fits _ rfl (.tmp 33) (.tmp 41) 22 rfl w.heap.size 33 i5 5 Tryz.underlying22 I5.out.1 I5.out.2.2.1 G0 j M (flat5 acc) rfl Hown5.out ⟨w5.heap.size, 0, none⟩ 1 1 (rc5 (kx, gx, ax, nx, sx)) rfl rfl Hrc.out (rc5_one _) (by omega) ?_); intro w6 hown6 hg6)
            | fail)
          have hg7 := Hg5.out.trans hg6
          refine ⟨⟨j + 1, by omega, by go_num, rfl, ?_, hg7⟩, by simp only [intOf]; omega⟩
          rw [Hsn.out]
          exact own_snoc hal hown6
        · obtain rfl : j = M := by omega
          rw [List.take_of_length_le (by rw [hksM.out]; omega), Hnew.out] at hown
          have hb4 := hbc3.grown hg hbc3.size (fun j hj => by cases hj; omega)
          go_wp2_with fail
          go_ret
          exact ⟨_, rfl, hown, hb4⟩

end Go.Proofs.YtggokffdgjedgaaGreat

namespace Go.Proofs.YtggokffdgjedgaaGreat
open Go.RowKit

theorem ret_lget_at {w w0 : World} {tmps : Array Value} {key : ByteArray} {gone : Bool} {k n : Int} {s : ByteArray} {g : Nat} {fr : Nat × Nat} {b : Bool} {v : Value}
    (hp : tmps.getD 4 undef = .pointer (some ⟨g, 0, none⟩)) (hg : w.heap[g]? = some (.cells #[.string key, .bool gone, .int .i64 k, .int .i64 n, .string s] 33 fr)) (h3 : tmps.getD 5 undef = .bool b)
    (hr : v = .tuple #[.agg #[.string key, .bool gone, .int .i64 k, .int .i64 n, .string s], .bool b]) (hb : Below w0.heap.size w0 w) : bodyPost Tryz.prog Tryz.f14 (fun e w' => e = .returned v ∧ Below w0.heap.size w0 w') Exit.ret { tmps := tmps, defers := [] } w := by
  subst hr
  have h := results_row_one (P := Tryz.prog) (fn := Tryz.f14) (p := 4) (u := 5) (ty := 33) rfl tmps w g 33 #[.string key, .bool gone, .int .i64 k, .int .i64 n, .string s] fr _ hp hg Tryz.underlying33 rfl (by kernel_rfl)
  rw [h3] at h
  exact bodyPost_ret h rfl ⟨rfl, hb⟩
theorem ret_lslot_at {w w0 : World} {tmps : Array Value} {key : ByteArray} {gone : Bool} {k n : Int} {s : ByteArray} {g : Nat} {fr : Nat × Nat} {b : Bool} {v : Value}
    (hp : tmps.getD 6 undef = .pointer (some ⟨g, 0, none⟩)) (hg : w.heap[g]? = some (.cells #[.string key, .bool gone, .int .i64 k, .int .i64 n, .string s] 33 fr)) (h3 : tmps.getD 7 undef = .bool b)
    (hr : v = .tuple #[.agg #[.string key, .bool gone, .int .i64 k, .int .i64 n, .string s], .bool b]) (hb : Below w0.heap.size w0 w) : bodyPost Tryz.prog Tryz.f38 (fun e w' => e = .returned v ∧ Below w0.heap.size w0 w') Exit.ret { tmps := tmps, defers := [] } w := by
  subst hr
  have h := results_row_one (P := Tryz.prog) (fn := Tryz.f38) (p := 6) (u := 7) (ty := 33) rfl tmps w g 33 #[.string key, .bool gone, .int .i64 k, .int .i64 n, .string s] fr _ hp hg Tryz.underlying33 rfl (by kernel_rfl)
  rw [h3] at h
  exact bodyPost_ret h rfl ⟨rfl, hb⟩

set_option maxRecDepth 100000 in
theorem lnil_get (key : ByteArray) (w : World) : Calls Tryz.prog 14 #[.pointer none, .string key] w fun e w' => e = .returned (outR none) ∧ Below w.heap.size w w' := by
  go_enter Tryz.func14, Tryz.ntmps14
  go_wp2_with fail
  exact ret_lget_at rfl (heap_alloc_new w _) rfl rfl (below_one w _)
set_option maxRecDepth 100000 in
theorem lnil_slot (b s : Int) (w : World) : Calls Tryz.prog 38 #[.pointer none, .int .i64 b, .int .i64 s] w fun e w' => e = .returned (outR none) ∧ Below w.heap.size w w' := by
  go_enter Tryz.func38, Tryz.ntmps38
  go_wp2_with fail
  exact ret_lslot_at rfl (heap_alloc_new w _) rfl rfl (below_one w _)
set_option maxRecDepth 100000 in
theorem lnil_reads (key : ByteArray) (w : World) : Calls Tryz.prog 17 #[.pointer none, .string key] w fun e w' => e = .returned (.int .i64 0) ∧ Below w.heap.size w w' := by
  go_enter Tryz.func17, Tryz.ntmps17
  go_wp2_with fail
  go_ret
  exact ⟨rfl, Below.refl _ _⟩
set_option maxRecDepth 100000 in
theorem lnil_list (w : World) : Calls Tryz.prog 20 #[.pointer none] w fun e w' => e = .returned (.slice none 0 0) ∧ Below w.heap.size w w' := by
  go_enter Tryz.func20, Tryz.ntmps20
  go_wp2_with fail
  go_ret
  exact ⟨rfl, Below.refl _ _⟩

set_option maxRecDepth 100000 in
theorem llist_c {w : World} {B p d : Nat} {v : Value} {L : List RecT} (h : LG w B p d v L) : Calls Tryz.prog 20 #[.pointer (some ⟨p, 0, none⟩)] w fun e w' => ∃ v', e = .returned v' ∧ OwnRec w' w.heap.size v' (newestR L) ∧ Below w.heap.size w w' := by
  have hl := h.len
  have C := Go.Lib.hid (pnewest_c v L w h.own.rs (by omega) fun x hx => by have := mayT_short (h.may x hx); omega)
  obtain ⟨x0, x1⟩ := h.cells
  obtain ⟨a, cap, rfl, -⟩ := h.own.rs.form
  clear h hl
  go_enter Tryz.func20, Tryz.ntmps20
  go_wp2_with fail
  refine C.out.mono ?_
  rintro e w1 ⟨v', rfl, hown, hb⟩
  have HO := Go.Lib.hid hown
  have HB := Go.Lib.hid hb
  clear hown hb C
  go_wp2_with fail
  go_ret
  exact ⟨_, rfl, HO.out, HB.out⟩

set_option maxHeartbeats 1000000 in
set_option maxRecDepth 100000 in
theorem lget_c {w : World} {B p d : Nat} {v : Value} {L : List RecT} (h : LG w B p d v L) (key : ByteArray) (hk : key.size ≤ 1000000) :
    Calls Tryz.prog 14 #[.pointer (some ⟨p, 0, none⟩), .string key] w fun e w' => e = .returned (outR (findK keyR L key.toList)) ∧ Below w.heap.size w w' := by
  have hb1 := below_one w (.cells #[.string ⟨#[]⟩, .bool false, .int .i64 0, .int .i64 0, .string ⟨#[]⟩] 33)
  have hA := heap_alloc_new w (.cells #[.string ⟨#[]⟩, .bool false, .int .i64 0, .int .i64 0, .string ⟨#[]⟩] 33)
  have CF := Go.Lib.hid (lfind_c (h.below hb1) key hk)
  have H := Go.Lib.hid h
  clear h hk
  go_enter Tryz.func14, Tryz.ntmps14
  go_wp2_with fail
  refine CF.out.mono ?_
  rintro e w1 ⟨hor, hc⟩
  have hA := row_kept hA hc
  have hbb := hb1.trans (hc.mono hb1.size)
  have HA := Go.Lib.hid hA
  have HB := Go.Lib.hid hbb
  have H1 := Go.Lib.hid (H.out.below hbb)
  clear hA hbb hc hb1 CF
  rcases hor with ⟨i, hi, hik, rfl⟩ | ⟨hno, rfl⟩
  · have HE := Go.Lib.hid (show findK keyR L key.toList = some L[i] from (find_iff H.out.keys _ _).2 ⟨List.getElem_mem hi, keyR_eq.2 hik⟩)
    obtain ⟨x0, x1⟩ := H1.out.cells
    obtain ⟨g, cap, rfl, hglt⟩ := own_form H1.out.own (by intro e; rw [e] at hi; simp at hi)
    obtain ⟨b, o, hbo, -, -, c0, c1, c2, c3, c4⟩ := H1.out.own.rs.at i hi
    cases hbo
    have hix := run_idx5 g 0 L.length cap i hi
    simp only [Nat.zero_add] at hix c0 c1 c2 c3 c4
    have hsz := H1.out.sizes hi
    generalize L[i] = x at *
    obtain ⟨kx, gx, ax, nx, sx⟩ := x
    simp only [] at c0 c1 c2 c3 c4 hsz
    have CR := Go.Lib.hid fun W => frec_c kx gx ax nx sx W (by omega) (by omega)
    unfold recV at CR
    clear hsz hik
    go_wp2_with fail
    refine (CR.out _).mono ?_
    rintro e w2 ⟨rfl, hc⟩
    have HA2 := Go.Lib.hid (row_kept HA.out hc)
    have HB2 := Go.Lib.hid (HB.out.trans (hc.mono HB.out.size))
    clear hc c0 c1 c2 c3 c4 hix x0 x1 CR HA
    go_wp2_with (first
      | (with_reducible show wpList _ _ _ (⟨none, Op.store 33 (.tmp 4) (.tmp 23), _, _, _, _⟩ :: _) _ _; go_loud (refine wpList_store_row rfl 33 (.tmp 4) (.tmp 23) rfl w.heap.size #[.string kx, .bool gx, .int .i64 ax, .int .i64 nx, .string sx] rfl rfl 33 _ HA2.out (by kernel_rfl) rfl (rec_cells_one ..) ?_))
      | fail)
    refine ret_lget_at rfl (setRow_heap _ _ _ _ _ (0, 0) HA2.out) rfl ?_ (setRow_below _ HB2.out (Nat.le_refl _))
    rw [HE.out]
    rfl
  · have HE := Go.Lib.hid (show findK keyR L key.toList = none from (find_none _).2 fun x hx e => hno x hx (keyR_eq.1 e))
    clear hno
    go_wp2_with (first
      | (with_reducible show wpList _ _ _ (⟨none, Op.store 33 (.tmp 4) (.tmp 15), _, _, _, _⟩ :: _) _ _; go_loud (refine wpList_store_row rfl 33 (.tmp 4) (.tmp 15) rfl w.heap.size #[.string ⟨#[]⟩, .bool false, .int .i64 0, .int .i64 0, .string ⟨#[]⟩] rfl rfl 33 _ HA.out (by kernel_rfl) rfl (rec_cells_one ..) ?_))
      | fail)
    refine ret_lget_at rfl (setRow_heap _ _ _ _ _ (0, 0) HA.out) rfl ?_ (setRow_below _ HB.out (Nat.le_refl _))
    rw [HE.out]
    rfl

/-- The record of a slot. -/
def slotO (T : SlT) (L : List RecT) (q : Nat) : Option RecT := (T q).map fun y => L.getD y.2.toNat nullR
theorem slot_some {T : SlT} {L : List RecT} (hf : Fits T (esL L)) {q t : Nat} {z : Int} (hq : q < 32) (hT : T q = some (t, z)) : ∃ i, ∃ h : i < L.length, z = (i : Int) ∧ slotO T L q = some L[i] ∧ keyN (q / 4) t = keyH (hR L[i]) := by
  obtain ⟨k, hk, he⟩ := hf.entry hq hT
  have hk2 : k < L.length := by rw [esL_len] at hk; exact hk
  rw [esL_at hk2] at he
  unfold keyE at he
  simp only [Prod.mk.injEq] at he
  refine ⟨k, hk2, he.2.symm, ?_, he.1.symm⟩
  unfold slotO
  rw [hT]
  simp only [Option.map_some, Option.some.injEq, ← he.2, Int.toNat_natCast]
  rw [List.getD_eq_getElem?_getD, List.getElem?_eq_getElem hk2]
  rfl

set_option maxHeartbeats 1000000 in
set_option maxRecDepth 100000 in
theorem lslot_c {w : World} {B p d : Nat} {v : Value} {L : List RecT} (h : LG w B p d v L) {T : SlT} (hc : CK w d T) (hf : Fits T (esL L)) {b s : Nat} (hb : b < 8) (hs : s < 4) :
    Calls Tryz.prog 38 #[.pointer (some ⟨p, 0, none⟩), .int .i64 (b : Int), .int .i64 (s : Int)] w fun e w' => e = .returned (outR (slotO T L (4 * b + s))) ∧ Below w.heap.size w w' := by
  have hb1 := below_one w (.cells #[.string ⟨#[]⟩, .bool false, .int .i64 0, .int .i64 0, .string ⟨#[]⟩] 33)
  have hA := heap_alloc_new w (.cells #[.string ⟨#[]⟩, .bool false, .int .i64 0, .int .i64 0, .string ⟨#[]⟩] 33)
  have H0 := h.below hb1
  obtain ⟨x0, x1⟩ := H0.cells
  obtain ⟨av, cap, rfl, hlm⟩ := h.own.rs.form
  have H := Go.Lib.hid h
  cases hT : T (4 * b + s) with
  | none =>
    have C := Go.Lib.hid (cat_none (hc.below hb1) hb hs hT)
    have HE := Go.Lib.hid (show slotO T L (4 * b + s) = none from by unfold slotO; rw [hT]; rfl)
    clear hT hf hc H0 h
    go_enter Tryz.func38, Tryz.ntmps38
    go_wp2_with fail
    refine C.out.mono ?_
    rintro e w1 ⟨rfl, hc⟩
    have HA := Go.Lib.hid (row_kept hA hc)
    have HB := Go.Lib.hid (hb1.trans (hc.mono hb1.size))
    clear hA hc hb1 C x0 x1
    go_wp2_with (first
      | (with_reducible show wpList _ _ _ (⟨none, Op.store 33 (.tmp 6) (.tmp 27), _, _, _, _⟩ :: _) _ _; go_loud (refine wpList_store_row rfl 33 (.tmp 6) (.tmp 27) rfl w.heap.size #[.string ⟨#[]⟩, .bool false, .int .i64 0, .int .i64 0, .string ⟨#[]⟩] rfl rfl 33 _ HA.out (by kernel_rfl) rfl (rec_cells_one ..) ?_))
      | fail)
    refine ret_lslot_at rfl (setRow_heap _ _ _ _ _ (0, 0) HA.out) rfl ?_ (setRow_below _ HB.out (Nat.le_refl _))
    rw [HE.out]
    rfl
  | some y =>
    obtain ⟨t, z⟩ := y
    have C := Go.Lib.hid (cat_some (hc.below hb1) hb hs hT)
    obtain ⟨i, hi, rfl, hsl, -⟩ := slot_some hf (by omega) hT
    have HE := Go.Lib.hid hsl
    clear hT hf hc H0 h hsl
    go_enter Tryz.func38, Tryz.ntmps38
    go_wp2_with fail
    refine C.out.mono ?_
    rintro e w1 ⟨rfl, hc⟩
    have HA := Go.Lib.hid (row_kept hA hc)
    have HB := Go.Lib.hid (hb1.trans (hc.mono hb1.size))
    have H1 := Go.Lib.hid (H.out.below HB.out)
    clear hA hc hb1 C x0 x1
    obtain ⟨x0, x1⟩ := H1.out.cells
    obtain ⟨b2, o2, rfl, -, -, c0, c1, c2, c3, c4⟩ := H1.out.own.rs.at i hi
    have hix := run_idx5 b2 o2 L.length cap i hi
    have hsz := H1.out.sizes hi
    generalize L[i] = x at *
    obtain ⟨kx, gx, ax, nx, sx⟩ := x
    simp only [] at c0 c1 c2 c3 c4 hsz
    have CR := Go.Lib.hid fun W => frec_c kx gx ax nx sx W (by omega) (by omega)
    unfold recV at CR
    clear hsz
    go_wp2_with fail
    refine (CR.out _).mono ?_
    rintro e w2 ⟨rfl, hc⟩
    have HA2 := Go.Lib.hid (row_kept HA.out hc)
    have HB2 := Go.Lib.hid (HB.out.trans (hc.mono HB.out.size))
    clear hc c0 c1 c2 c3 c4 hix x0 x1 CR HA
    go_wp2_with (first
      | (with_reducible show wpList _ _ _ (⟨none, Op.store 33 (.tmp 6) (.tmp 35), _, _, _, _⟩ :: _) _ _; go_loud (refine wpList_store_row rfl 33 (.tmp 6) (.tmp 35) rfl w.heap.size #[.string kx, .bool gx, .int .i64 ax, .int .i64 nx, .string sx] rfl rfl 33 _ HA2.out (by kernel_rfl) rfl (rec_cells_one ..) ?_))
      | fail)
    refine ret_lslot_at rfl (setRow_heap _ _ _ _ _ (0, 0) HA2.out) rfl ?_ (setRow_below _ HB2.out (Nat.le_refl _))
    rw [HE.out]
    rfl

set_option maxHeartbeats 1000000 in
set_option maxRecDepth 100000 in
theorem lslot_out {w : World} {B p d : Nat} {v : Value} {L : List RecT} (h : LG w B p d v L) {b s : Int} (hb : b < 0 ∨ 8 ≤ b ∨ s < 0 ∨ 4 ≤ s) :
    Calls Tryz.prog 38 #[.pointer (some ⟨p, 0, none⟩), .int .i64 b, .int .i64 s] w fun e w' => e = .returned (outR none) ∧ Below w.heap.size w w' := by
  have hb1 := below_one w (.cells #[.string ⟨#[]⟩, .bool false, .int .i64 0, .int .i64 0, .string ⟨#[]⟩] 33)
  have hA := heap_alloc_new w (.cells #[.string ⟨#[]⟩, .bool false, .int .i64 0, .int .i64 0, .string ⟨#[]⟩] 33)
  have H0 := h.below hb1
  obtain ⟨x0, x1⟩ := H0.cells
  have C := Go.Lib.hid (cat_bad (some ⟨d, 0, none⟩) b s (w.alloc (.cells #[.string ⟨#[]⟩, .bool false, .int .i64 0, .int .i64 0, .string ⟨#[]⟩] 33)) (.inr hb))
  clear H0 h hb
  go_enter Tryz.func38, Tryz.ntmps38
  go_wp2_with fail
  refine C.out.mono ?_
  rintro e w1 ⟨rfl, hc⟩
  have HA := Go.Lib.hid (row_kept hA hc)
  have HB := Go.Lib.hid (hb1.trans (hc.mono hb1.size))
  clear hA hc hb1 C x0 x1
  go_wp2_with (first
    | (with_reducible show wpList _ _ _ (⟨none, Op.store 33 (.tmp 6) (.tmp 27), _, _, _, _⟩ :: _) _ _; go_loud (refine wpList_store_row rfl 33 (.tmp 6) (.tmp 27) rfl w.heap.size #[.string ⟨#[]⟩, .bool false, .int .i64 0, .int .i64 0, .string ⟨#[]⟩] rfl rfl 33 _ HA.out (by kernel_rfl) rfl (rec_cells_one ..) ?_))
    | fail)
  refine ret_lslot_at rfl (setRow_heap _ _ _ _ _ (0, 0) HA.out) rfl ?_ (setRow_below _ HB.out (Nat.le_refl _))
  rfl

def VLr (p d hk : Nat) (key : ByteArray) (F : List Int) : Nat → World → Value → Prop
  | 7, _, v => v = .pointer (some ⟨p, 0, none⟩)
  | 8, _, v => v = .pointer (some ⟨p, 0, none⟩)
  | 9, _, v => v = .pointer (some ⟨p, 0, none⟩)
  | 10, _, v => v = .pointer (some ⟨d, 0, none⟩)
  | 11, _, v => v = .string key
  | 12, _, v => v = .int .u64 (hk : Int)
  | 13, w, v => KI.R w v F
  | 14, _, v => v = .int .i64 (F.length : Int)
  | 4, _, v => v = .int .i64 (F.length : Int)
  | _, _, _ => True

theorem VLr_below (p d hk : Nat) (key : ByteArray) (F : List Int) : ∀ (i : Nat) (w w' : World) (v : Value), VLr p d hk key F i w v → Below w.heap.size w w' → VLr p d hk key F i w' v := by
  intro i w w' v h hb
  unfold VLr at h ⊢
  split at h <;> first | exact h | trivial | exact Lay.R.below h hb

set_option maxHeartbeats 1000000 in
set_option maxRecDepth 100000 in
theorem lreads_c {w : World} {B p d : Nat} {v : Value} {L : List RecT} (h : LG w B p d v L) (key : ByteArray) (hk : key.size ≤ 1000000) :
    Calls Tryz.prog 17 #[.pointer (some ⟨p, 0, none⟩), .string key] w fun e w' => e = .returned (.int .i64 (readsR L key : Int)) ∧ Below w.heap.size w w' := by
  have CH := Go.Lib.hid fun W => hof_k key (hashS key) rfl W hk
  have CF := Go.Lib.hid fun W (hb : Below w.heap.size w W) => lids_c (h.below hb) key
  have X0 := Go.Lib.hid h.cells.1
  have HN := Go.Lib.hid (ids_len L key)
  clear h hk
  generalize idsR L key = F at *
  generalize hashS key = hk at *
  go_enter Tryz.func17, Tryz.ntmps17
  go_upto_region 3 with (fail)
  refine wp_region_each (by kernel_rfl) (VLr p d hk key F) (VLr_below p d hk key F) (by decide +kernel) (by decide +kernel) (by rfl) [7, 8, 9, 10, 11, 12, 13, 14, 4] (by rfl) ?_ ?_
  · intro i o ho a w6 hb6 hlen hg
    have x0 := keepC X0.out hb6
    match i, ho with
    | 0, ho =>
      obtain rfl := Option.some.inj ho
      have h0 := given_old hg 0 (by decide +kernel)
      clear hg
      exact st_yield ho (wanted_none rfl) (.pointer (some ⟨p, 0, none⟩)) w6 (by simp [execOp, Act.eval, h0, go_sem]) ⟨_, rfl, Below.refl _ _, by rintro t' ⟨⟩; rfl⟩
    | 1, ho =>
      obtain rfl := Option.some.inj ho
      obtain ⟨_, h7, rfl⟩ := given_fed hg 7 (by decide +kernel)
      clear hg
      exact st_yield ho (wanted_none rfl) (.pointer (some ⟨p, 0, none⟩)) w6 (by simp [execOp, Act.eval, h7, go_sem]) ⟨_, rfl, Below.refl _ _, by rintro t' ⟨⟩; rfl⟩
    | 2, ho =>
      obtain rfl := Option.some.inj ho
      obtain ⟨_, h8, rfl⟩ := given_fed hg 8 (by decide +kernel)
      clear hg
      exact st_yield ho (wanted_none rfl) (.pointer (some ⟨p, 0, none⟩)) w6 (by simp [execOp, Act.eval, h8, go_sem]) ⟨_, rfl, Below.refl _ _, by rintro t' ⟨⟩; rfl⟩
    | 3, ho =>
      obtain rfl := Option.some.inj ho
      obtain ⟨_, h9, rfl⟩ := given_fed hg 9 (by decide +kernel)
      clear hg
      exact st_yield ho (wanted_none rfl) (.pointer (some ⟨d, 0, none⟩)) w6 (by simp [execOp, Act.eval, h9, go_sem, x0]) ⟨_, rfl, Below.refl _ _, by rintro t' ⟨⟩; rfl⟩
    | 4, ho =>
      obtain rfl := Option.some.inj ho
      have h1 := given_old hg 1 (by decide +kernel)
      clear hg
      exact st_yield ho (wanted_none rfl) (.string key) w6 (by simp [execOp, Act.eval, h1, go_sem]) ⟨_, rfl, Below.refl _ _, by rintro t' ⟨⟩; rfl⟩
    | 5, ho =>
      obtain rfl := Option.some.inj ho
      obtain ⟨_, h11, rfl⟩ := given_fed hg 11 (by decide +kernel)
      clear hg
      exact st_enter (w1 := w6) ho (wanted_none rfl) 33 #[.string key] (by simp [execOp, Act.eval, h11, resolve, go_sem]) ((CH.out _).mono (by rintro e w7 ⟨rfl, hb7⟩; exact ⟨_, rfl, _, rfl, hb7, by rintro t' ⟨⟩; rfl⟩))
    | 6, ho =>
      obtain rfl := Option.some.inj ho
      obtain ⟨_, h10, rfl⟩ := given_fed hg 10 (by decide +kernel)
      obtain ⟨_, h12, rfl⟩ := given_fed hg 12 (by decide +kernel)
      clear hg
      exact st_enter (w1 := w6) ho (wanted_none rfl) 35 #[.pointer (some ⟨d, 0, none⟩), .int .u64 (hk : Int)] (by simp [execOp, Act.eval, h10, h12, resolve, go_sem]) ((CF.out w6 hb6).mono (by rintro e w7 ⟨v', rfl, hown, hb7⟩; exact ⟨v', rfl, _, rfl, hb7, by rintro t' ⟨⟩; exact hown⟩))
    | 7, ho =>
      obtain rfl := Option.some.inj ho
      obtain ⟨v13, h13, p13⟩ := given_fed hg 13 (by decide +kernel)
      clear hg
      obtain ⟨a, cap, rfl, -⟩ := p13.form
      exact st_yield ho (wanted_none rfl) (.int .i64 (F.length : Int)) w6 (by simp [execOp, Act.eval, h13, resolve, go_sem]) ⟨_, rfl, Below.refl _ _, by rintro t' ⟨⟩; rfl⟩
    | 8, ho =>
      obtain rfl := Option.some.inj ho
      obtain ⟨_, h14, rfl⟩ := given_fed hg 14 (by decide +kernel)
      clear hg
      exact st_yield ho (wanted_none rfl) (.int .i64 (F.length : Int)) w6 (by simp [execOp, Act.eval, h14, go_sem]) ⟨_, rfl, Below.refl _ _, by rintro t' ⟨⟩; rfl⟩
    | n + 9, ho => simp at ho
  · intro f w6 hb6 hv
    have h4 := hv 4 (by decide)
    simp only [VLr] at h4
    have HB := Go.Lib.hid hb6
    clear hv CF CH hb6
    unfold putAll
    simp only [List.foldl]
    simp only [h4]
    go_simp
    clear h4
    go_wp2_with fail
    go_ret
    rw [← HN.out]
    exact ⟨rfl, HB.out⟩

end Go.Proofs.YtggokffdgjedgaaGreat

namespace Go.Proofs.YtggokffdgjedgaaGreat
open Go.RowKit

theorem room_two : ∀ S : Fin 256, ∀ b c : Fin 8, b ≠ c → bitN S.val b.val = 1 → bitN S.val c.val = 1 → 8 ≤ roomN S.val := by decide +kernel
/-- Eight find a place, whichever. -/
theorem room_small {hs : List Nat} (h : hs.length ≤ 8) : roomB hs = true := by
  refine room_all fun S hS => ?_
  by_cases hz : cntN S hs = 0
  · omega
  · obtain ⟨x, -, hx⟩ := List.countP_pos_iff.1 (show 0 < List.countP (inS S) hs from by unfold cntN at hz; omega)
    unfold inS at hx
    simp only [Bool.and_eq_true, beq_iff_eq] at hx
    have h8 := room_two ⟨S, hS⟩ ⟨firstN x, first_lt x⟩ ⟨othN (firstN x) (tagN x), oth_lt (tagN x) (first_lt x)⟩ (fun e => oth_ne (tagN x) (first_lt x) (by simpa using congrArg Fin.val e.symm)) hx.1 hx.2
    have := cnt_le S hs
    simp only [] at h8
    omega
theorem roomR_small {L : List RecT} (h : L.length ≤ 7) (k : ByteArray) : roomR L k = true := by
  unfold roomR
  rw [room_small (by simp; omega), Bool.or_true]
theorem putL_len (L : List RecT) (x : RecT) : (putL L x).length ≤ L.length + 1 := by
  unfold putL
  split <;> simp
/-- A log that stays where it is, behind a put. -/
structure Kept (B p d : Nat) (v : Value) (M : List RecT) (w w' : World) : Prop where
  lg : ∃ v', LG w' B p d v' M ∧ (v'.ownBlock = v.ownBlock ∨ ∀ k, v'.ownBlock = some k → w.heap.size ≤ k)
  off : Off3 p d v.ownBlock w w'
theorem lput_small {w : World} {B p d : Nat} {v : Value} {L : List RecT} (h : LG w B p d v L) (key : ByteArray) (gone : Bool) (k n : Int) (s : ByteArray) (hm : mayT (key, gone, k, n, s) = true) (hr : roomR L key = true) :
    Calls Tryz.prog 12 #[.pointer (some ⟨p, 0, none⟩), .agg #[.string key, .bool gone, .int .i64 k, .int .i64 n, .string s]] w fun e w' => e = .returned (.int .i64 0) ∧ (∃ v', LG w' B p d v' (putL L (key, gone, k, n, s)) ∧ (v'.ownBlock = v.ownBlock ∨ ∀ k, v'.ownBlock = some k → w.heap.size ≤ k)) ∧ Off3 p d v.ownBlock w w' := by
  have hz := mayT_short hm
  simp only [] at hz
  have C := lput_w h key gone k n s (by unfold maxLen; omega) (by unfold maxLen; omega)
  have h1 : putE L (key, gone, k, n, s) = 0 := by unfold putE; simp [hm, hr]
  have h2 : putN L (key, gone, k, n, s) = putL L (key, gone, k, n, s) := by unfold putN; simp [hm, hr]
  rw [h1, h2] at C
  exact C

def xb1 : RecT := (⟨#[98]⟩, false, 1, 1, ⟨#[]⟩)
def xa : RecT := (⟨#[97]⟩, true, 0, 0, ⟨#[]⟩)
def xb2 : RecT := (⟨#[98]⟩, false, 1, 2, ⟨#[]⟩)
theorem may_b1 : mayT xb1 = true := by unfold mayT mayRec mayK mayR xb1; simp; decide
theorem may_a : mayT xa = true := by unfold mayT mayRec mayK xa; simp; decide
theorem may_b2 : mayT xb2 = true := by unfold mayT mayRec mayK mayR xb2; simp; decide
theorem may_null : mayT nullR = false := by unfold mayT mayRec mayK mayR nullR; simp
theorem key_ab : keyR xa ≠ keyR xb1 := by unfold keyR; rw [ByteArray.toList_eq, ByteArray.toList_eq]; decide
theorem key_bb : keyR xb2 = keyR xb1 := rfl
theorem put1 : putL [] xb1 = [xb1] := rfl
theorem put2 : putL [xb1] xa = [xb1, xa] := putL_new fun y hy => by rw [List.mem_singleton.1 hy]; exact key_ab.symm
theorem keys2 : KeysOk [xb1, xa] := by unfold KeysOk; simp [key_ab.symm]
theorem put3 : putL [xb1, xa] xb2 = [xb2, xa] := putL_in keys2 (i := 0) (by simp) key_bb.symm
theorem new3 : newestR [xb2, xa] = [xa, xb2] := by
  refine (newestK_of ordR [xb2, xa] [xa, xb2] ?_ fun k => rfl).symm
  unfold Rising keyR
  rw [List.pairwise_cons]
  refine ⟨fun y hy => ?_, by simp⟩
  rw [List.mem_singleton.1 hy]
  rw [ByteArray.toList_eq, ByteArray.toList_eq]
  decide
theorem run3 : runP [] [xa, xb2] = (0, [xa, xb2]) := by
  have e1 : putE [] xa = 0 := by unfold putE; simp [may_a, roomR_small]
  have e2 : putN [] xa = [xa] := by unfold putN; simp [may_a, roomR_small, putL]
  have e3 : putE [xa] xb2 = 0 := by unfold putE; simp [may_b2, roomR_small]
  have e4 : putN [xa] xb2 = [xa, xb2] := by unfold putN; simp [may_b2, roomR_small]; exact putL_new fun y hy => by rw [List.mem_singleton.1 hy]; exact key_ab
  simp [runP, e1, e2, e3, e4]
theorem find3b : findK keyR [xb2, xa] (⟨#[98]⟩ : ByteArray).toList = some xb2 := by unfold findK; rw [List.find?_cons]; simp [keyR, xb2]
theorem find3c : findK keyR [xb2, xa] (⟨#[99]⟩ : ByteArray).toList = none := by
  rw [find_none]
  intro x hx
  simp only [List.mem_cons, List.not_mem_nil, or_false] at hx
  rw [Ne, keyR_eq]
  rcases hx with rfl | rfl <;> decide
theorem reads3 : 1 ≤ readsR [xb2, xa] ⟨#[98]⟩ := by
  unfold readsR
  rw [List.countP_cons]
  have : nearN (hashS ⟨#[98]⟩) (hR xb2) = true := near_self _
  rw [this]
  simp
theorem outR_b2 : outR (some xb2) = .tuple #[.agg #[.string ⟨#[98]⟩, .bool false, .int .i64 1, .int .i64 2, .string ⟨#[]⟩], .bool true] := rfl

set_option maxHeartbeats 4000000 in
set_option maxRecDepth 100000 in
theorem begun_c (w : World) : Calls Tryz.prog 6 #[] w fun e w' => e = .returned (.bool true) ∧ Below w.heap.size w w' := by
  have CN := Go.Lib.hid (lnew_c w)
  go_enter Tryz.func6, Tryz.ntmps6
  go_wp2_with fail
  refine CN.out.mono ?_
  rintro e w1 ⟨p, d, rfl, hl, hb⟩
  have HB := Go.Lib.hid hb
  have HL := Go.Lib.hid hl
  clear hb hl CN
  go_wp2_with fail
  refine (lput_small HL.out ⟨#[98]⟩ false 1 1 ⟨#[]⟩ may_b1 (roomR_small (by simp) _)).mono ?_
  rintro e w2 ⟨rfl, ⟨v2, hl, -⟩, ho⟩
  have HB2 := Go.Lib.hid (HB.out.trans (HL.out.offBelow ho))
  have HL2 : Hid (LG w2 w.heap.size p d v2 [xb1]) := hl
  clear hl ho HL HB
  go_wp2_with fail
  refine (lput_small HL2.out ⟨#[97]⟩ true 0 0 ⟨#[]⟩ may_a (roomR_small (by simp) _)).mono ?_
  rintro e w3 ⟨rfl, ⟨v3, hl, -⟩, ho⟩
  have HB3 := Go.Lib.hid (HB2.out.trans (HL2.out.offBelow ho))
  have HL3 : Hid (LG w3 w.heap.size p d v3 [xb1, xa]) := by rw [← put2]; exact hl
  clear hl ho HL2 HB2
  go_wp2_with fail
  refine (lput_small HL3.out ⟨#[98]⟩ false 1 2 ⟨#[]⟩ may_b2 (roomR_small (by simp) _)).mono ?_
  rintro e w4 ⟨rfl, ⟨v4, hl, -⟩, ho⟩
  have HB4 := Go.Lib.hid (HB3.out.trans (HL3.out.offBelow ho))
  have HL4 : Hid (LG w4 w.heap.size p d v4 [xb2, xa]) := by rw [← put3]; exact hl
  clear hl ho HL3 HB3
  have CG := lget_c HL4.out ⟨#[98]⟩ (by decide)
  rw [find3b, outR_b2] at CG
  have CG := Go.Lib.hid CG
  go_wp2_with fail
  refine CG.out.mono ?_
  rintro e w5 ⟨rfl, hc⟩
  have hc2 := hc.trans ((below_one w5 (.cells #[.string ⟨#[98]⟩, .bool false, .int .i64 1, .int .i64 2, .string ⟨#[]⟩] 33)).mono hc.size)
  have HB5 := Go.Lib.hid (HB4.out.trans (hc2.mono HB4.out.size))
  have HL5 := Go.Lib.hid (HL4.out.below hc2)
  have HX := Go.Lib.hid (heap_alloc_new w5 (.cells #[.string ⟨#[98]⟩, .bool false, .int .i64 1, .int .i64 2, .string ⟨#[]⟩] 33))
  clear hc hc2 CG HB4 HL4
  obtain ⟨g5, hg5⟩ : ∃ g, g = w5.heap.size := ⟨_, rfl⟩
  go_wp2_with fail
  rw [← hg5] at HX ⊢
  generalize w5.alloc (.cells #[.string ⟨#[98]⟩, .bool false, .int .i64 1, .int .i64 2, .string ⟨#[]⟩] 33) = w6 at *
  clear hg5
  have CG := lget_c HL5.out ⟨#[99]⟩ (by decide)
  rw [find3c, outR_none] at CG
  refine CG.mono ?_
  rintro e w7 ⟨rfl, hc⟩
  have hc2 := hc.trans ((below_one w7 (.cells #[.string ⟨#[]⟩, .bool false, .int .i64 0, .int .i64 0, .string ⟨#[]⟩] 33)).mono hc.size)
  have HB7 := Go.Lib.hid (HB5.out.trans (hc2.mono HB5.out.size))
  have HL7 := Go.Lib.hid (HL5.out.below hc2)
  have HX7 := Go.Lib.hid (row_kept HX.out hc2)
  clear hc hc2 CG HB5 HL5 HX
  go_wp2_with fail
  generalize w7.alloc (.cells #[.string ⟨#[]⟩, .bool false, .int .i64 0, .int .i64 0, .string ⟨#[]⟩] 33) = w8 at *
  refine (llist_c HL7.out).mono ?_
  rintro e w9 ⟨v9, rfl, ho9, hc⟩
  rw [new3] at ho9
  have HB9 := Go.Lib.hid (HB7.out.trans (hc.mono HB7.out.size))
  have HL9 := Go.Lib.hid (HL7.out.below hc)
  have HX9 := Go.Lib.hid (row_kept HX7.out hc)
  have HO9 := Go.Lib.hid ho9
  clear hc HB7 HL7 HX7
  have CO := Go.Lib.hid (lof_c v9 [xa, xb2] w9 ho9.rs (by intro x hx; simp only [List.mem_cons, List.not_mem_nil, or_false] at hx; rcases hx with rfl | rfl <;> decide))
  rw [run3] at CO
  obtain ⟨g9, c9, rfl, hg9⟩ := own_form ho9 (by simp)
  clear ho9 hg9
  go_wp2_with fail
  refine CO.out.mono ?_
  rintro e w10 ⟨⟨-, p2, d2, v2', rfl, hl2⟩ | ⟨h0, -⟩, hc⟩
  · have HB10 := Go.Lib.hid (HB9.out.trans (hc.mono HB9.out.size))
    have HL10 := Go.Lib.hid (HL9.out.below hc)
    have HX10 := Go.Lib.hid (row_kept HX9.out hc)
    have HM10 := Go.Lib.hid hl2
    have HO10 := Go.Lib.hid (HO9.out.below hc)
    clear hc hl2 CO HB9 HL9 HX9 HO9
    obtain ⟨y0, y1, y2, y3, y4⟩ := row5 HX10.out
    obtain ⟨b, o, hbo, -, -, c0, c1, c2, c3, c4⟩ := HO10.out.rs.at 0 (by simp)
    cases hbo
    have hix : ∀ W : World, (Instr.indexAt 22 (.slice (some ⟨g9, 0, none⟩) 2 c9) (.int .i64 0)).run Tryz.prog W = .ok (.pointer (some ⟨g9, 0, none⟩)) W := fun W => by simpa using run_idx5 g9 0 2 c9 0 (by omega) W
    simp only [Nat.zero_mul, Nat.add_zero, List.getElem_cons_zero, xa] at c0 c1 c2 c3 c4
    have hq97 : ((⟨#[97]⟩ : ByteArray).toList == (⟨#[97]⟩ : ByteArray).toList) = true := beq_iff_eq.2 rfl
    clear c1 c2 c3 c4 y0 y1 y2 y4
    go_wp2_with fail
    refine (llen_c HL10.out).mono ?_
    rintro e w11 ⟨rfl, rfl⟩
    go_wp2_with fail
    have hr3 := reads3
    refine (lreads_c HL10.out ⟨#[98]⟩ (by decide)).mono ?_
    rintro e w11 ⟨rfl, hc⟩
    have HB11 := Go.Lib.hid (HB10.out.trans (hc.mono HB10.out.size))
    have HL11 := Go.Lib.hid (HL10.out.below hc)
    have HM11 := Go.Lib.hid (HM10.out.below hc)
    clear hc HB10 HL10 HM10 y3 c0
    generalize readsR [xb2, xa] ⟨#[98]⟩ = n3 at *
    have hge : decide ((1 : Int) ≤ (n3 : Int)) = true := decide_eq_true (by omega)
    have hge2 : ((1 : Int) ≤ (n3 : Int)) := by omega
    go_wp2_with fail
    refine (llen_c HM11.out).mono ?_
    rintro e w12 ⟨rfl, rfl⟩
    have CP := lput_w HL11.out ⟨#[]⟩ false 0 0 ⟨#[]⟩ (by decide) (by decide)
    have hE : putE [xb2, xa] (⟨#[]⟩, false, 0, 0, ⟨#[]⟩) = 1 := by unfold putE; rw [show mayT (⟨#[]⟩, false, 0, 0, ⟨#[]⟩) = false from may_null]; rfl
    rw [hE] at CP
    unfold recV at CP
    have CP := Go.Lib.hid CP
    go_wp2_with fail
    refine CP.out.mono ?_
    rintro e w13 ⟨rfl, -, ho⟩
    have HB13 := Go.Lib.hid (HB11.out.trans (HL11.out.offBelow ho))
    clear ho CP
    go_wp2_with fail
    go_ret
    exact ⟨rfl, HB13.out⟩
  · exact absurd rfl h0

end Go.Proofs.YtggokffdgjedgaaGreat

namespace Go.Proofs.YtggokffdgjedgaaGreat
open Go.RowKit

theorem ret_rfind_at {w w0 : World} {tmps : Array Value} {key : ByteArray} {gone : Bool} {k n : Int} {s : ByteArray} {g : Nat} {fr : Nat × Nat} {b : Bool} {v : Value}
    (hp : tmps.getD 4 undef = .pointer (some ⟨g, 0, none⟩)) (hg : w.heap[g]? = some (.cells #[.string key, .bool gone, .int .i64 k, .int .i64 n, .string s] 33 fr)) (h3 : tmps.getD 5 undef = .bool b)
    (hr : v = .tuple #[.agg #[.string key, .bool gone, .int .i64 k, .int .i64 n, .string s], .bool b]) (hb : Below w0.heap.size w0 w) : bodyPost Tryz.prog Tryz.f15 (fun e w' => e = .returned v ∧ Below w0.heap.size w0 w') Exit.ret { tmps := tmps, defers := [] } w := by
  subst hr
  have h := results_row_one (P := Tryz.prog) (fn := Tryz.f15) (p := 4) (u := 5) (ty := 33) rfl tmps w g 33 #[.string key, .bool gone, .int .i64 k, .int .i64 n, .string s] fr _ hp hg Tryz.underlying33 rfl (by kernel_rfl)
  rw [h3] at h
  exact bodyPost_ret h rfl ⟨rfl, hb⟩

set_option maxHeartbeats 1000000 in
set_option maxRecDepth 100000 in
theorem rfind_c (v : Value) (l : List RecT) (key : ByteArray) (w : World) (hv : RS w v l) :
    Calls Tryz.prog 15 #[v, .string key] w fun e w' => e = .returned (outR (findK keyR l key.toList)) ∧ Below w.heap.size w w' := by
  obtain ⟨a, cap, rfl, hm⟩ := hv.form
  have hb1 := below_one w (.cells #[.string ⟨#[]⟩, .bool false, .int .i64 0, .int .i64 0, .string ⟨#[]⟩] 33)
  have HB1 := Go.Lib.hid hb1
  have HA := Go.Lib.hid (heap_alloc_new w (.cells #[.string ⟨#[]⟩, .bool false, .int .i64 0, .int .i64 0, .string ⟨#[]⟩] 33))
  have HR := Go.Lib.hid (hv.below hb1)
  clear hv hb1
  go_enter Tryz.func15, Tryz.ntmps15
  go_wp2_with fail
  generalize w.alloc (.cells #[.string ⟨#[]⟩, .bool false, .int .i64 0, .int .i64 0, .string ⟨#[]⟩] 33) = w1 at *
  go_loopw [6] (fun ki wr => ∃ k : Nat, k ≤ l.length ∧ ki = .int .i64 (k : Int) ∧ Hid (∀ x ∈ l.take k, keyR x ≠ key.toList) ∧ wr = w1) (fun ki _ => l.length - (intOf ki).toNat)
  case atStart => exact ⟨0, by omega, rfl, Go.Lib.hid (by simp), rfl⟩
  case round =>
    obtain ⟨k, hk, rfl, HNO, rfl⟩ := hrel
    by_cases hlt : k < l.length
    · obtain ⟨b, o, rfl, -, -, c0, c1, c2, c3, c4⟩ := HR.out.at k hlt
      have hix := run_idx5 b o l.length cap k hlt
      have HYES := Go.Lib.hid (fun (he : keyR l[k] = key.toList) => show findK keyR l key.toList = some l[k] from by
        unfold findK
        rw [List.find?_eq_some_iff_getElem]
        refine ⟨by simpa using he, k, hlt, rfl, fun j hj => ?_⟩
        simp only [Bool.not_eq_true', decide_eq_false_iff_not]
        exact HNO.out _ (List.mem_take_iff_getElem.2 ⟨j, by omega, rfl⟩))
      have HNEX := Go.Lib.hid (fun (he : keyR l[k] ≠ key.toList) => show ∀ x ∈ l.take (k + 1), keyR x ≠ key.toList from fun x hx => by
        rw [List.take_succ_eq_append_getElem hlt] at hx
        rcases List.mem_append.1 hx with h | h
        · exact HNO.out x h
        · rw [List.mem_singleton.1 h]; exact he)
      clear HNO
      generalize l[k] = x at *
      obtain ⟨kx, gx, ax, nx, sx⟩ := x
      simp only [] at c0 c1 c2 c3 c4
      by_cases hq : kx.toList = key.toList
      · have HE := Go.Lib.hid (HYES.out hq)
        have hqb : (kx.toList == key.toList) = true := beq_iff_eq.2 hq
        clear HYES HNEX
        go_wp2_with (first
          | (with_reducible show wpList _ _ _ (⟨none, Op.store 33 (.tmp 4) (.tmp 23), _, _, _, _⟩ :: _) _ _; go_loud (refine wpList_store_row rfl 33 (.tmp 4) (.tmp 23) rfl w.heap.size #[.string kx, .bool gx, .int .i64 ax, .int .i64 nx, .string sx] rfl rfl 33 _ HA.out (by kernel_rfl) rfl (rec_cells_one ..) ?_))
          | fail)
        refine ret_rfind_at rfl (setRow_heap _ _ _ _ _ (0, 0) HA.out) rfl ?_ (setRow_below _ HB1.out (Nat.le_refl _))
        rw [HE.out]
        rfl
      · have HS := Go.Lib.hid (HNEX.out hq)
        have hqb : (kx.toList == key.toList) = false := beq_eq_false_iff_ne.2 hq
        clear HYES HNEX
        go_wp2_with fail
        exact ⟨⟨k + 1, by omega, by go_num, HS, trivial⟩, by simp only [intOf]; omega⟩
    · obtain rfl : k = l.length := by omega
      have HE := Go.Lib.hid (show findK keyR l key.toList = none from (find_none _).2 (by have := HNO.out; rwa [List.take_length] at this))
      clear HNO
      go_wp2_with (first
        | (with_reducible show wpList _ _ _ (⟨none, Op.store 33 (.tmp 4) (.tmp 24), _, _, _, _⟩ :: _) _ _; go_loud (refine wpList_store_row rfl 33 (.tmp 4) (.tmp 24) rfl w.heap.size #[.string ⟨#[]⟩, .bool false, .int .i64 0, .int .i64 0, .string ⟨#[]⟩] rfl rfl 33 _ HA.out (by kernel_rfl) rfl (rec_cells_one ..) ?_))
        | fail)
      refine ret_rfind_at rfl (setRow_heap _ _ _ _ _ (0, 0) HA.out) rfl ?_ (setRow_below _ HB1.out (Nat.le_refl _))
      rw [HE.out]
      rfl

end Go.Proofs.YtggokffdgjedgaaGreat
