/-
  Mathematics of a map that says of each key where it stood last (of no code), and what is the newest of each key.
  What the library's slices.Sorted gives of maps.Keys of a map: its keys, sorted, in a slice of their own (the library's contracts laid at this program; made by gen/SortL.py).
  Package record: contract of Newest.
  The contract of the laws' begun.
  Which record may be, of a record as one letter.
  Records that were cut; the reference's May of one.
  Slices of records: contract of the laws' Recs.
  Slices of records: contract of the reference's EqRecs.
-/
import Derived.Test.YtmlndgkpbodnnaaM06
import Derived.Maps.OwnSet
import Derived.Maps.OwnOps
import Derived.Sort.KeysCollected
import Derived.Shelf.SlGeneric
import Derived.Shelf.SlIter.Nil
import Derived.Shelf.SortM.Plain
import Derived.Shelf.SortM.SortNone
import Derived.Ground.GgzProg
import Derived.Ground.SlgmProg
import Derived.Test.YtmlndgkpbodnnaaProg
import Derived.LoopTactic
import Derived.Carry
import Derived.Test.YtmlndgkpbodnnaaM05
import Derived.Test.YtmlndgkpbodnnaaM03
import Derived.Deep.DeepCutAuto
namespace Go.Proofs.Ytmlndgkpbodnnaa
open Go.Maps

/-- A record's key, as a map's. -/
def klit (x : RecT) : Lit := .string x.1.data.toList
/-- Behind n records. -/
def mapD (H : Type) (l : List RecT) : Nat → DataW H
  | 0 => .map []
  | n + 1 => (mapD H l n).put (klit (l.getD n default)) (.lit (.int .i64 (n : Int)))

theorem keyR_data (x : RecT) : keyR x = x.1.data.toList := by unfold keyR; rw [ByteArray.toList_eq]

section
variable {H : Type} {l : List RecT}
theorem mapD_isMap : ∀ n, IsMap (mapD H l n)
  | 0 => isMap_empty
  | n + 1 => (mapD_isMap n).put _ _
theorem mapD_succ (n : Nat) (h : n < l.length) : mapD H l (n + 1) = (mapD H l n).put (.string l[n].1.data.toList) (.lit (.int .i64 (n : Int))) := by
  rw [mapD]
  unfold klit
  rw [List.getD, List.getElem?_eq_getElem h]
  rfl
theorem mapD_has (k : List UInt8) : ∀ n, n ≤ l.length → (has (mapD H l n) (.string k) = true ↔ ∃ x ∈ l.take n, x.1.data.toList = k)
  | 0, _ => by
    constructor
    · intro h; cases h
    · rintro ⟨x, hx, -⟩; simp at hx
  | n + 1, h => by
    have hlt : n < l.length := h
    have ih := mapD_has k n (by omega)
    rw [mapD_succ n hlt, List.take_succ_eq_append_getElem hlt]
    by_cases e : k = l[n].1.data.toList
    · subst e
      rw [has_put_same (mapD_isMap n) (show WideAt.IsKeyLit (.string _) from trivial)]
      exact ⟨fun _ => ⟨l[n], List.mem_append_right _ (List.mem_singleton.2 rfl), rfl⟩, fun _ => rfl⟩
    · rw [has_put_other (fun h => e (by simpa using h)), ih]
      constructor
      · rintro ⟨x, hx, hk⟩; exact ⟨x, List.mem_append_left _ hx, hk⟩
      · rintro ⟨x, hx, hk⟩
        rcases List.mem_append.1 hx with hx | hx
        · exact ⟨x, hx, hk⟩
        · simp at hx
          subst hx
          exact absurd hk.symm e
theorem mapD_at (k : List UInt8) : ∀ n, n ≤ l.length → has (mapD H l n) (.string k) = true →
    ∃ i, ∃ hi : i < l.length, (∀ z, (mapD H l n).atKey (.string k) z = .lit (.int .i64 (i : Int))) ∧ findK keyR (l.take n).reverse k = some l[i] ∧ keyR l[i] = k
  | 0, _, h => by cases h
  | n + 1, h, hh => by
    have hlt : n < l.length := h
    rw [mapD_succ n hlt] at hh ⊢
    rw [List.take_succ_eq_append_getElem hlt, List.reverse_append]
    by_cases e : k = l[n].1.data.toList
    · refine ⟨n, hlt, fun z => ?_, ?_, (keyR_data _).trans e.symm⟩
      · rw [← e, atKey_put_same (mapD_isMap n) (show WideAt.IsKeyLit (.string _) from trivial)]
      · unfold findK
        simp [keyR_data, e]
    · rw [has_put_other (fun h => e (by simpa using h))] at hh
      obtain ⟨i, hi, h1, h2, h3⟩ := mapD_at k n (by omega) hh
      refine ⟨i, hi, fun z => ?_, ?_, h3⟩
      · rw [atKey_put_other (fun h => e (by simpa using h))]
        exact h1 z
      · unfold findK at h2 ⊢
        rw [List.reverse_singleton, List.singleton_append, List.find?_cons]
        have : ¬ keyR l[n] = k := by rw [keyR_data]; exact fun h => e h.symm
        simp [this, h2]
end

/-- The order of bytes, as the library sorts. -/
theorem less_of_le : ∀ x y : List UInt8, x ≤ y → x ≠ y → Go.Op.bytesLess x y = true := by
  intro x y h hne
  rcases less_tri x y with g | g | g
  · exact g
  · exact absurd g hne
  · exfalso
    have hlt : ∀ x y : List UInt8, Go.Op.bytesLess x y = true → x < y := by
      intro x
      induction x with
      | nil =>
        intro y h
        cases y with
        | nil => cases h
        | cons b y => exact List.nil_lt_cons ..
      | cons a x ih =>
        intro y h
        cases y with
        | nil => cases h
        | cons b y =>
          simp only [Go.Op.bytesLess, Bool.or_eq_true, decide_eq_true_eq, Bool.and_eq_true, beq_iff_eq] at h
          rw [List.cons_lt_cons_iff]
          rcases h with h | ⟨rfl, h⟩
          · exact .inl h
          · exact .inr ⟨rfl, ih y h⟩
    exact absurd (hlt y x g) (List.not_lt.2 h)

/-- Of each key of a sorted row of all keys the record that stood last. -/
def pickR (l : List RecT) (k : List UInt8) : RecT := (findK keyR l.reverse k).getD default

theorem newest_of_keys (l : List RecT) (ss : List (List UInt8)) (hs : ss.Nodup) (hm : ∀ k, k ∈ ss ↔ ∃ x ∈ l, x.1.data.toList = k) :
    (ss.mergeSort (fun x y => decide (x ≤ y))).map (pickR l) = newestR l := by
  have hp : ∀ k, k ∈ ss.mergeSort (fun x y => decide (x ≤ y)) ↔ ∃ x ∈ l, x.1.data.toList = k := fun k => ((List.mergeSort_perm ss _).mem_iff).trans (hm k)
  have hnd : (ss.mergeSort (fun x y => decide (x ≤ y))).Nodup := (List.mergeSort_perm ss _).nodup_iff.2 hs
  have hpw := List.pairwise_mergeSort (le := fun x y : List UInt8 => decide (x ≤ y)) (fun a b c h1 h2 => by simp only [decide_eq_true_eq] at *; exact List.le_trans h1 h2) (fun a b => by simp only [Bool.or_eq_true, decide_eq_true_eq]; exact List.le_total a b) ss
  generalize ss.mergeSort (fun x y => decide (x ≤ y)) = ks at *
  have hk : ∀ k ∈ ks, ∃ x, findK keyR l.reverse k = some x ∧ keyR x = k := by
    intro k h
    obtain ⟨x, hx, hxk⟩ := (hp k).1 h
    have hsome : (findK keyR l.reverse k).isSome = true := List.find?_isSome.2 ⟨x, by simpa using hx, by simp [keyR_data, hxk]⟩
    obtain ⟨y, hy⟩ := Option.isSome_iff_exists.1 hsome
    have hy2 := List.find?_some hy
    exact ⟨y, hy, by simpa using hy2⟩
  have hpick : ∀ k ∈ ks, findK keyR l.reverse k = some (pickR l k) ∧ keyR (pickR l k) = k := by
    intro k h
    obtain ⟨x, h1, h2⟩ := hk k h
    unfold pickR
    rw [h1]
    exact ⟨rfl, h2⟩
  refine newestK_of ordR l _ ?_ fun k => ?_
  · unfold Rising
    rw [List.pairwise_map]
    refine (hpw.and hnd).imp_of_mem ?_
    intro a b ha hb h
    rw [(hpick a ha).2, (hpick b hb).2]
    exact less_of_le a b (by simpa using h.1) h.2
  · by_cases hin : k ∈ ks
    · rw [(hpick k hin).1]
      unfold findK
      have : ∀ ks : List (List UInt8), k ∈ ks → (∀ k' ∈ ks, keyR (pickR l k') = k') → List.find? (fun x => decide (keyR x = k)) (ks.map (pickR l)) = some (pickR l k) := by
        intro ks
        induction ks with
        | nil => intro h _; cases h
        | cons a t ih =>
          intro h hh
          rw [List.map_cons, List.find?_cons, hh a (List.mem_cons_self ..)]
          by_cases ha : a = k
          · subst ha; simp
          · simp only [ha, decide_false]
            exact ih (by rcases List.mem_cons.1 h with h | h; exact absurd h.symm ha; exact h) fun k' hk' => hh k' (List.mem_cons_of_mem _ hk')
      exact this ks hin fun k' hk' => (hpick k' hk').2
    · have h1 : findK keyR l.reverse k = none := by
        unfold findK
        rw [List.find?_eq_none]
        intro x hx
        simp only [decide_eq_true_eq]
        intro e
        exact hin ((hp k).2 ⟨x, by simpa using hx, by rw [← keyR_data]; exact e⟩)
      rw [h1]
      unfold findK
      rw [List.find?_eq_none]
      intro x hx
      obtain ⟨k', hk', rfl⟩ := List.mem_map.1 hx
      simp only [decide_eq_true_eq]
      rw [(hpick k' hk').2]
      rintro rfl
      exact hin hk'

section
variable {H : Type} {P : Program} {k : TypeId} {R : Value → Option (DataW H × List MemPlace)} {w : World} {b n : Nat} {l : List RecT}
/-- The keys that stand in the map. -/
theorem strKeys_mapD (hown : w.ownsMap P k R b n (mapD H l l.length)) (K : Keyed P k) (hk : P.underlying k = some .string) :
    (strKeys (mapD H l l.length)).Nodup ∧ ∀ x, x ∈ strKeys (mapD H l l.length) ↔ ∃ y ∈ l, y.1.data.toList = x := by
  obtain ⟨es, hD, hpw, -⟩ := hown.entries K
  obtain ⟨es', hD', hko⟩ := hown.keysOf
  obtain rfl : es = es' := by rw [hD] at hD'; simpa using hD'
  have hstr : ∀ p ∈ es, ∃ x, p.1 = .string x := fun p hp => by
    obtain ⟨v, hv⟩ := hko p hp
    obtain ⟨x, -, hx, -⟩ := Maps.keyOf_str hk hv
    exact ⟨x, hx⟩
  have hh := fun x => mapD_has (H := H) (l := l) x l.length (Nat.le_refl _)
  rw [List.take_of_length_le (Nat.le_refl _)] at hh
  rw [hD] at hh ⊢
  refine ⟨?_, fun x => (Iff.trans ?_ (hh x))⟩
  · show (es.map fun p => strOf p.1).Nodup
    refine List.pairwise_map.2 (hpw.imp_of_mem fun {p q} hp' hq' hne e => hne ?_)
    obtain ⟨a, ha⟩ := hstr p hp'
    obtain ⟨c, hc⟩ := hstr q hq'
    rw [ha, hc] at e ⊢
    exact congrArg _ e
  · rw [has_eq, List.any_eq_true]
    show x ∈ (es.map fun p => strOf p.1) ↔ _
    rw [List.mem_map]
    constructor
    · rintro ⟨p, hp', rfl⟩
      obtain ⟨a, ha⟩ := hstr p hp'
      exact ⟨p, hp', by rw [ha]; simp [Lit.sameKey, strOf]⟩
    · rintro ⟨p, hp', hs⟩
      obtain ⟨a, ha⟩ := hstr p hp'
      rw [ha] at hs
      exact ⟨p, hp', by rw [ha]; simpa [Lit.sameKey, strOf] using hs⟩
end

end Go.Proofs.Ytmlndgkpbodnnaa

namespace Go.Proofs.Ytmlndgkpbodnnaa
open Go.RowKit Go.Maps Go.Sort Go.Shelf
def keysL_ren : Go.Shelf.Ren := ⟨fun | 7 => 41 | 10 => 55 | n => n, fun | 23 => 60 | 26 => 9 | 3 => 3 | 28 => 64 | 0 => 0 | 27 => 63 | 33 => 47 | 4 => 4 | n => n, fun | n => n⟩
theorem keysL : Go.Proofs.SlLaysZ.n7 Try.prog keysL_ren := {
  mixed := by kernel_rfl
  f7 := ⟨Try.f41.name, by decide, Try.func41.trans (congrArg some (by kernel_rfl))⟩
  f10 := ⟨Try.f55.name, by decide, Try.func55.trans (congrArg some (by kernel_rfl))⟩
  t0 := Try.underlying0
  a0 := Try.isAgg0
  z0 := Try.sizeOf0
  v0 := Try.zeroValue0
  t4 := Try.underlying4
  a4 := Try.isAgg4
  z4 := Try.sizeOf4
  v4 := Try.zeroValue4
  t23 := Try.underlying60
  a23 := Try.isAgg60
  z23 := Try.sizeOf60
  v23 := Try.zeroValue60
  t26 := Try.underlying9
  a26 := Try.isAgg9
  z26 := Try.sizeOf9
  v26 := Try.zeroValue9
  t27 := Try.underlying63
  a27 := Try.isAgg63
  z27 := Try.sizeOf63
  v27 := Try.zeroValue63
  t28 := Try.underlying64
  a28 := Try.isAgg64
  z28 := Try.sizeOf64
  v28 := Try.zeroValue64
  t33 := Try.underlying47
  a33 := Try.isAgg47
  z33 := Try.sizeOf47
  v33 := Try.zeroValue47 }
def sortedL_ren : Go.Shelf.Ren := ⟨fun | 6 => 40 | 8 => 53 | 9 => 54 | 11 => 62 | 13 => 64 | 12 => 63 | 23 => 76 | 24 => 77 | 14 => 67 | 15 => 68 | 16 => 69 | 17 => 70 | 18 => 71 | 19 => 72 | 20 => 73 | 21 => 74 | 22 => 75 | 25 => 79 | 26 => 80 | 27 => 81 | 28 => 82 | 29 => 83 | 30 => 84 | 31 => 86 | n => n, fun | 26 => 9 | 28 => 64 | 24 => 61 | 0 => 0 | 3 => 3 | 37 => 83 | 48 => 99 | 50 => 71 | 4 => 4 | 40 => 91 | 39 => 90 | 45 => 96 | 5 => 5 | 9 => 9 | 51 => 102 | 55 => 106 | 57 => 108 | 58 => 109 | 33 => 47 | n => n, fun | n => n⟩
theorem sortedL : Go.Proofs.SlLaysZ.n6 Try.prog sortedL_ren := {
  mixed := by kernel_rfl
  f6 := ⟨Try.f40.name, by decide, Try.func40.trans (congrArg some (by kernel_rfl))⟩
  f8 := ⟨Try.f53.name, by decide, Try.func53.trans (congrArg some (by kernel_rfl))⟩
  f11 := ⟨Try.f62.name, by decide, Try.func62.trans (congrArg some (by kernel_rfl))⟩
  t0 := Try.underlying0
  a0 := Try.isAgg0
  z0 := Try.sizeOf0
  v0 := Try.zeroValue0
  t24 := Try.underlying61
  a24 := Try.isAgg61
  z24 := Try.sizeOf61
  v24 := Try.zeroValue61
  t26 := Try.underlying9
  a26 := Try.isAgg9
  z26 := Try.sizeOf9
  v26 := Try.zeroValue9
  t28 := Try.underlying64
  a28 := Try.isAgg64
  z28 := Try.sizeOf64
  v28 := Try.zeroValue64
  i26 := by kernel_rfl }
def sortL_ren : Go.Shelf.Ren := ⟨fun | 6 => 54 | 8 => 64 | 9 => 63 | 19 => 76 | 20 => 77 | 21 => 67 | 22 => 68 | 23 => 69 | 24 => 70 | 25 => 71 | 26 => 72 | 27 => 73 | 28 => 74 | 29 => 75 | 36 => 79 | 31 => 80 | 32 => 81 | 37 => 82 | 38 => 83 | 39 => 84 | 41 => 86 | n => n, fun | 27 => 61 | 29 => 9 | 3 => 3 | 32 => 83 | 26 => 61 | 0 => 0 | 44 => 99 | 46 => 71 | 4 => 4 | 36 => 91 | 35 => 90 | 41 => 96 | 5 => 5 | 9 => 9 | 53 => 102 | 57 => 106 | 63 => 108 | 64 => 109 | n => n, fun | n => n⟩
theorem sortL : Go.Proofs.SlLaysM.n6 Try.prog sortL_ren := {
  mixed := by kernel_rfl
  f6 := ⟨Try.f54.name, by decide, Try.func54.trans (congrArg some (by kernel_rfl))⟩
  f8 := Try.func64.trans (congrArg some (by kernel_rfl))
  f9 := ⟨Try.f63.name, by decide, Try.func63.trans (congrArg some (by kernel_rfl))⟩
  f19 := Try.func76.trans (congrArg some (by kernel_rfl))
  f20 := Try.func77.trans (congrArg some (by kernel_rfl))
  f21 := ⟨Try.f67.name, by decide, Try.func67.trans (congrArg some (by kernel_rfl))⟩
  f22 := ⟨Try.f68.name, by decide, Try.func68.trans (congrArg some (by kernel_rfl))⟩
  f23 := ⟨Try.f69.name, by decide, Try.func69.trans (congrArg some (by kernel_rfl))⟩
  f24 := ⟨Try.f70.name, by decide, Try.func70.trans (congrArg some (by kernel_rfl))⟩
  f25 := ⟨Try.f71.name, by decide, Try.func71.trans (congrArg some (by kernel_rfl))⟩
  f26 := ⟨Try.f72.name, by decide, Try.func72.trans (congrArg some (by kernel_rfl))⟩
  f27 := ⟨Try.f73.name, by decide, Try.func73.trans (congrArg some (by kernel_rfl))⟩
  f28 := ⟨Try.f74.name, by decide, Try.func74.trans (congrArg some (by kernel_rfl))⟩
  f29 := ⟨Try.f75.name, by decide, Try.func75.trans (congrArg some (by kernel_rfl))⟩
  f31 := Try.func80.trans (congrArg some (by kernel_rfl))
  f32 := Try.func81.trans (congrArg some (by kernel_rfl))
  f36 := ⟨Try.f79.name, by decide, Try.func79.trans (congrArg some (by kernel_rfl))⟩
  f37 := ⟨Try.f82.name, by decide, Try.func82.trans (congrArg some (by kernel_rfl))⟩
  f38 := ⟨Try.f83.name, by decide, Try.func83.trans (congrArg some (by kernel_rfl))⟩
  f39 := ⟨Try.f84.name, by decide, Try.func84.trans (congrArg some (by kernel_rfl))⟩
  f41 := ⟨Try.f86.name, by decide, Try.func86.trans (congrArg some (by kernel_rfl))⟩
  t0 := Try.underlying0
  a0 := Try.isAgg0
  z0 := Try.sizeOf0
  v0 := Try.zeroValue0
  t3 := Try.underlying3
  a3 := Try.isAgg3
  z3 := Try.sizeOf3
  v3 := Try.zeroValue3
  t4 := Try.underlying4
  a4 := Try.isAgg4
  z4 := Try.sizeOf4
  v4 := Try.zeroValue4
  t5 := Try.underlying5
  a5 := Try.isAgg5
  z5 := Try.sizeOf5
  v5 := Try.zeroValue5
  t9 := Try.underlying9
  a9 := Try.isAgg9
  z9 := Try.sizeOf9
  v9 := Try.zeroValue9
  t26 := Try.underlying61
  a26 := Try.isAgg61
  z26 := Try.sizeOf61
  v26 := Try.zeroValue61
  t27 := Try.underlying61
  a27 := Try.isAgg61
  z27 := Try.sizeOf61
  v27 := Try.zeroValue61
  t29 := Try.underlying9
  a29 := Try.isAgg9
  z29 := Try.sizeOf9
  v29 := Try.zeroValue9
  t32 := Try.underlying83
  a32 := Try.isAgg83
  z32 := Try.sizeOf83
  v32 := Try.zeroValue83
  t35 := Try.underlying90
  a35 := Try.isAgg90
  z35 := Try.sizeOf90
  v35 := Try.zeroValue90
  t36 := Try.underlying91
  a36 := Try.isAgg91
  z36 := Try.sizeOf91
  v36 := Try.zeroValue91
  t41 := Try.underlying96
  a41 := Try.isAgg96
  z41 := Try.sizeOf96
  v41 := Try.zeroValue96
  t44 := Try.underlying99
  a44 := Try.isAgg99
  z44 := Try.sizeOf99
  v44 := Try.zeroValue99
  t46 := Try.underlying71
  a46 := Try.isAgg71
  z46 := Try.sizeOf71
  v46 := Try.zeroValue71
  t53 := Try.underlying102
  a53 := Try.isAgg102
  z53 := Try.sizeOf102
  v53 := Try.zeroValue102
  t57 := Try.underlying106
  a57 := Try.isAgg106
  z57 := Try.sizeOf106
  v57 := Try.zeroValue106
  t63 := Try.underlying108
  a63 := Try.isAgg108
  z63 := Try.sizeOf108
  v63 := Try.zeroValue108
  t64 := Try.underlying109
  a64 := Try.isAgg109
  z64 := Try.sizeOf109
  v64 := Try.zeroValue109 }

theorem sorts_any (m : Nat) : AnyZ.SortsIn Try.prog sortedL_ren Fence.wide m :=
  ⟨fun blk off cap ss W hH hblk hsz => callsIn_wide.2 (AnyM.slices_Sort_string sortL blk off cap ss W hH hblk hsz),
   fun p cap W => callsIn_wide.2 (AnyM.slices_Sort_string_none sortL p cap W)⟩

/-- maps.Keys: a function over a new block that holds the map. -/
theorem mkeys_c (b : Nat) (W : World) : Calls Try.prog 41 #[.map (some b)] W fun e w' => e = .returned (.func (.func 55) #[] #[.pointer (some ⟨W.heap.size, 0, none⟩)]) ∧ w' = W.alloc (.cells #[.map (some b)] 60) :=
  callsIn_wide.1 (AnyZ.keys_in keysL Fence.wide 5 trivial rfl (some b) W)

set_option maxHeartbeats 1000000 in
/-- slices.Sorted of what maps.Keys answered. -/
theorem sortedk_c {H : Type} (b nn : Nat) (D0 : DataW H) (R : Value → Option (DataW H × List MemPlace)) (w : World) (hown : w.ownsMap Try.prog 9 R b nn D0) (hmax : Maps.size D0 ≤ maxLen) (hbytes : Maps.size D0 * 16 ≤ 140737488355328) :
    Calls Try.prog 40 #[.func (.func 55) #[] #[.pointer (some ⟨w.heap.size, 0, none⟩)]] (w.alloc (.cells #[.map (some b)] 60)) fun e w' => ∃ (v : Value) (ss : List (List UInt8)), e = .returned v ∧ ss.Perm (strKeys D0) ∧
      w'.ownsRow (w.alloc (.cells #[.map (some b)] 60)).heap.size 9 1 v ss.length ((ss.mergeSort (fun x y => decide (x ≤ y))).map encStr) ∧ Below (w.alloc (.cells #[.map (some b)] 60)).heap.size (w.alloc (.cells #[.map (some b)] 60)) w' := by
  have hbl := hown.lt
  have hseq : SeqGives Fence.wide 2 Try.prog 55 #[.pointer (some ⟨w.heap.size, 0, none⟩)] encStr (fun ss => ss.Perm (strKeys D0)) (Maps.size D0) (w.alloc (.cells #[.map (some b)] 60)) :=
    AnyZ.keys_gives (ρ := keysL_ren) { keysL with } Fence.wide _ trivial rfl (by omega) w.heap.size b nn D0 _ (by simp) (by simp) (by
      obtain ⟨es, clock, hb, Ft, hs, hD⟩ := hown
      exact ⟨es, clock, (Below.heap_alloc _ _ b hbl).trans hb, Ft, hs, hD⟩)
  have h := AnyZ.sorted_in sortedL Fence.wide 5 trivial trivial trivial trivial rfl (by omega) (sorts_any _) (enters_of Try.func54 (by kernel_rfl) rfl) 55 #[.pointer (some ⟨w.heap.size, 0, none⟩)] trivial (enters_of Try.func55 (by kernel_rfl) rfl) _ _ hmax hbytes _ hseq
  refine (callsIn_wide.1 h).mono ?_
  rintro e w' ⟨v, ss, he, hp, hrow, -, hb⟩
  exact ⟨v, ss, he, hp, hrow, hb⟩

end Go.Proofs.Ytmlndgkpbodnnaa

namespace Go.Proofs.Ytmlndgkpbodnnaa
open Go.RowKit Go.Op Go.Maps Go.WideMaps

theorem mlaw : Keyed Try.prog 9 := string_keyed Try.underlying9
theorem mzero (w : World) : (zeroValue 3).run Try.prog w = .ok (.int .i64 0) w := by kernel_rfl

theorem grown_then {w w1 w2 : World} {row : Option Nat} (h : w.grownBy w1 row) (hb : Below w1.heap.size w1 w2) : w.grownBy w2 row :=
  ⟨hb.os.trans h.os, hb.tape.trans h.tape, hb.output.trans h.output, Nat.le_trans h.size hb.size, fun k hk hne => (hb.block k (Nat.lt_of_lt_of_le hk h.size)).trans (h.block k hk hne)⟩

/-- A sorted row of keys, as the walk reads it. -/
theorem keys_row {w : World} {B n : Nat} {v : Value} {ks : List (List UInt8)} (hn : ks.length = n) (h : w.ownsRow B 9 1 v n (ks.map Go.Proofs.encStr)) :
    ∃ a cap, v = .slice a n cap ∧ ∀ j (hj : j < ks.length), ∃ g, a = some ⟨g, 0, none⟩ ∧ B ≤ g ∧ w.cell? ⟨g, j, none⟩ = some (.string (str ks[j])) := by
  subst hn
  rcases h.2 with ⟨rfl, hz⟩ | ⟨g, cap, cur, rfl, hB, h1⟩
  · obtain rfl : ks = [] := List.eq_nil_of_length_eq_zero hz
    exact ⟨none, 0, rfl, fun j hj => absurd hj (by simp)⟩
  · refine ⟨_, cap, rfl, fun j hj => ⟨g, rfl, hB, ?_⟩⟩
    rw [World.ownsRow.cellAt h j (by omega), List.getElem?_map, List.getElem?_eq_getElem hj]
    rfl

/-- One record in a new block. -/
theorem rc5_new (W : World) (x : RecT) : ∀ (q : Nat) (u : Value), (rc5 x)[q]? = some u → (W.alloc (.cells #[.string x.1, .bool x.2.1, .int .i64 x.2.2.1, .int .i64 x.2.2.2.1, .string x.2.2.2.2] 25)).cell? ((⟨W.heap.size, 0, none⟩ : Addr).add q) = some u := by
  intro q u h
  have hadd : (⟨W.heap.size, 0, none⟩ : Addr).add q = ⟨W.heap.size, 0 + q, none⟩ := by unfold Addr.add; split <;> simp_all
  rw [hadd, Nat.zero_add]
  rw [cell_of_row _ W.heap.size q _ _ _ (heap_alloc_new W (.cells #[.string x.1, .bool x.2.1, .int .i64 x.2.2.1, .int .i64 x.2.2.2.1, .string x.2.2.2.2] 25))]
  rw [← h]
  unfold rc5
  exact List.getElem?_toArray
theorem rc5_one (x : RecT) : ∀ u ∈ rc5 x, u.oneCell' = true := by
  intro u hu
  simp only [rc5, List.mem_cons, List.not_mem_nil, or_false] at hu
  rcases hu with rfl | rfl | rfl | rfl | rfl <;> rfl
theorem own_snoc {w : World} {B j : Nat} {v : Value} {acc : List RecT} {x : RecT} (hal : acc.length = j) (h : w.ownsRow B 25 5 v (j + 1) (flat5 acc ++ rc5 x)) : OwnRec w B v (acc ++ [x]) := by
  subst hal
  unfold OwnRec
  rw [List.length_append]
  unfold flat5 at *
  rw [List.flatMap_append]
  simpa using h

set_option maxHeartbeats 4000000 in
set_option maxRecDepth 100000 in
theorem pnewest_c (v : Value) (l : List RecT) (w : World) (hv : RS w v l) (hl : l.length ≤ 1000) (hs : ∀ x ∈ l, x.1.size ≤ 1000 ∧ x.2.2.2.2.size ≤ 1000) :
    Calls Try.prog 20 #[v] w fun e w' => ∃ v', e = .returned v' ∧ OwnRec w' w.heap.size v' (newestR l) ∧ Below w.heap.size w w' := by
  obtain ⟨a, cap, rfl, hm⟩ := hv.form
  have HR := Go.Lib.hid hv; clear hv
  have hmm := @run_makeMap Try.prog
  obtain ⟨i5, hi5, hz5, hsz5, hby5⟩ := info_parts info5
  have I5 := Go.Lib.hid (And.intro hi5 (And.intro hz5 (And.intro hsz5 hby5))); clear hi5 hz5 hsz5 hby5
  go_enter Try.func20, Try.ntmps20
  go_wp2_with fail
  go_loopw [12] (fun i wr => ∃ k : Nat, k ≤ l.length ∧ i = .int .i64 (k : Int) ∧ wr.ownsMap Try.prog 9 (plainElem Try.prog 3) w.heap.size k (mapD Unit l k) ∧ Below w.heap.size w wr) (fun i _ => l.length - (intOf i).toNat)
  case atStart => exact ⟨0, Nat.zero_le _, rfl, World.ownsMap_made _ _ _ _, (Below.refl _ _).alloc (Nat.le_refl _) _⟩
  case round =>
    obtain ⟨k, hk, rfl, hown, hbc⟩ := hrel
    by_cases hlt : k < l.length
    · obtain ⟨b, o, rfl, -, hbs, c0, c1, c2, c3, c4⟩ := (HR.out.below hbc).at k hlt
      have hx := (hs l[k] (List.getElem_mem hlt)).1
      have Hst := Go.Lib.hid (mapD_succ (H := Unit) k hlt)
      have hix := run_idx5 b o l.length cap k hlt
      generalize l[k] = x at *
      obtain ⟨kx, gx, ax, nx, sx⟩ := x
      simp only [] at c0 c1 c2 c3 c4 hx Hst
      have hkey : keyOf Try.prog 9 (.string kx) = some (.string kx.data.toList) := keyOf_string_mk Try.underlying9 (by unfold maxLen; omega)
      have hwf : (Lit.int .i64 (k : Int)).wf = true := by
        rw [show (k : Int) = wrap64 (k : Int) from by unfold wrap64; omega]
        exact wrap64_wf _
      have hown2 := hown.alloc (.cells #[.string kx, .bool gx, .int .i64 ax, .int .i64 nx, .string sx] 25)
      have hbc2 := hbc.trans ((below_one wr (.cells #[.string kx, .bool gx, .int .i64 ax, .int .i64 nx, .string sx] 25)).mono hbc.size)
      have Hown := Go.Lib.hid hown2
      have Hk := Go.Lib.hid (And.intro hkey hwf)
      clear hx hown hown2 hkey hwf
      go_wp2_with (first
        | (at_mapUpdate; refine wpList_mapUpdate_own _ rfl _ _ _ 60 rfl 9 3 mlaw Try.underlying60 _ w.heap.size k _ rfl Hown.out (by unfold maxLen; omega) _ _ _ rfl rfl Hk.out.1 _ [] (plainElem_int Try.underlying3 Hk.out.2) ?_; intro w1 hown1 hgrow1)
        | fail)
      rw [← Hst.out] at hown1
      have hbc3 := hbc2.grown hgrow1 hbc2.size (fun j hj => by cases hj; exact Nat.le_refl _)
      clear hgrow1 Hown Hk Hst c0 c1 c2 c3 c4 hbc hbc2 hix
      go_wp2_with fail
      exact ⟨⟨k + 1, by omega, by go_num, hown1, hbc3⟩, by simp only [intOf]; omega⟩
    · obtain rfl : k = l.length := by omega
      have hsz := hown.size_le
      have hlen := fun ty => hown.len Try.underlying60 ty
      have hG0 := hown.lt
      obtain ⟨hnd, hmem⟩ := strKeys_mapD hown mlaw Try.underlying9
      have hat := fun k h => mapD_at (H := Unit) (l := l) k l.length (Nat.le_refl _) h
      have hhas := fun k => mapD_has (H := Unit) (l := l) k l.length (Nat.le_refl _)
      rw [List.take_of_length_le (Nat.le_refl _)] at hat hhas
      have hkl : (strKeys (mapD Unit l l.length)).length = Maps.size (mapD Unit l l.length) := by
        obtain ⟨es, hD, -⟩ := hown.entries mlaw
        rw [hD]
        simp [strKeys, Maps.size]
      have hone := fun (j : Nat) (hj : j < l.length) => hs l[j] (List.getElem_mem hj)
      generalize hD : mapD Unit l l.length = D at *
      obtain ⟨M, hM⟩ : ∃ M, M = Maps.size D := ⟨_, rfl⟩
      rw [← hM] at hlen hsz hkl
      have HM := Go.Lib.hid hM; clear hM
      have Hat := Go.Lib.hid hat; clear hat
      have Hhas := Go.Lib.hid hhas; clear hhas
      have Hmem := Go.Lib.hid hmem; clear hmem
      have Hone := Go.Lib.hid hone; clear hone hs
      have Hkl := Go.Lib.hid hkl; clear hkl
      have Hnd := Go.Lib.hid hnd; clear hnd
      clear hD
      go_wp2_with (first
        | (with_reducible show wpList _ _ _ (⟨some 24, _, _, _, _, _⟩ :: _) _ _; go_loud (refine wpList_make_own _ rfl _ _ 40 rfl w.heap.size 25 i5 _ 5 Try.underlying40 I5.out.1 I5.out.2.1 I5.out.2.2.1 .i64 .i64 _ M rfl rfl rfl (by rw [I5.out.2.2.2]; omega) (by unfold maxLen; omega) hbc.size ?_); intro w2 hrow2 hg2)
        | fail)
      have hbc2 := hbc.grown hg2 hbc.size (fun j hj => by cases hj)
      have hown2 := hown.kept hg2 (by simp)
      have hG2 := (World.ownsRow.lt hrow2 wr.heap.size rfl).2
      have C2 := Go.Lib.hid (sortedk_c w.heap.size l.length D (plainElem Try.prog 3) w2 hown2 (by rw [← HM.out]; unfold maxLen; omega) (by rw [← HM.out]; omega))
      refine (mkeys_c w.heap.size w2).mono ?_
      rintro e w3 ⟨rfl, rfl⟩
      go_wp2_with fail
      refine C2.out.mono ?_
      rintro e w3 ⟨vs, ss, rfl, hp, hks, hb3⟩
      have hnew := newest_of_keys l ss (hp.nodup_iff.2 Hnd.out) (fun k => (hp.mem_iff).trans (Hmem.out k))
      have hml : M = ss.length := Hkl.out.symm.trans hp.length_eq.symm
      have hksl : (ss.mergeSort (fun x y => decide (x ≤ y))).length = M := (List.length_mergeSort ss).trans hml.symm
      have hin : ∀ k ∈ ss.mergeSort (fun x y => decide (x ≤ y)), Maps.has D (.string k) = true := fun k hk => (Hhas.out k).2 ((Hmem.out k).1 (hp.mem_iff.1 ((List.mergeSort_perm ss _).mem_iff.1 hk)))
      rw [← hml] at hks
      have hg3 := grown_then (World.grownBy_alloc w2 (.cells #[.map (some w.heap.size)] 60) none) hb3
      have hown3 := hown2.kept hg3 (by simp)
      have hbc3 := hbc2.grown hg3 hbc2.size (fun j hj => by cases hj)
      have hrec3 : OwnRec w3 w.heap.size (.slice (some ⟨wr.heap.size, 0, none⟩) 0 M) [] := OwnRec.kept (l := []) hrow2 hg3 (.inr (by simp [Value.ownBlock]))
      have hnB : wr.heap.size < (w2.alloc (.cells #[.map (some w.heap.size)] 60)).heap.size := by simp; omega
      generalize ss.mergeSort (fun x y => decide (x ≤ y)) = ks at *
      obtain ⟨a2, cap2, rfl, hrow⟩ := keys_row hksl hks
      have hfit : M ≤ M := Nat.le_refl _
      have Hnew := Go.Lib.hid hnew; clear hnew
      have Hin := Go.Lib.hid hin; clear hin
      have Hrow := Go.Lib.hid hrow; clear hrow
      have Hown3 := Go.Lib.hid hown3; clear hown3
      clear hlen hks hp hb3 hg3 hrow2 hown2 hbc2 hg2 C2 hown hbc hml Hnd Hmem Hhas Hkl hmm hfit
      have hksM := Go.Lib.hid hksl; clear hksl
      generalize wr.heap.size = G0 at *
      go_wp2_with fail
      go_loopw [6, 29] (fun vb i w4 => ∃ j : Nat, j ≤ M ∧ i = .int .i64 (j : Int) ∧ vb = .slice (some ⟨G0, 0, none⟩) j M ∧ OwnRec w4 w.heap.size vb ((ks.take j).map (pickR l)) ∧ w3.grownBy w4 (some G0)) (fun _ i _ => M - (intOf i).toNat)
      case atStart => exact ⟨0, by omega, rfl, rfl, by simpa using hrec3, World.grownBy.refl _ _⟩
      case round =>
        obtain ⟨j, hj, rfl, rfl, hown, hg⟩ := hrel
        by_cases hlt : j < M
        · have hjk : j < ks.length := by rw [hksM.out]; exact hlt
          obtain ⟨g, rfl, hgB, hkc⟩ := Hrow.out j hjk
          have hkc4 := hg.cell hkc (by simp; omega)
          have hown4 := Hown3.out.kept hg (by simp; omega)
          have hb4 := hbc3.grown hg hbc3.size (fun j hj => by cases hj; omega)
          obtain ⟨i, hi, hati, hfind, hkk⟩ := Hat.out ks[j] (Hin.out _ (List.getElem_mem hjk))
          have hones := Hone.out i hi
          have hkeyOf : keyOf Try.prog 9 (.string (str ks[j])) = some (.string ks[j]) := by
            have h := keyOf_string_mk (P := Try.prog) Try.underlying9 (s := str ks[j]) (by
              have h1 := hones.1
              have h2 : ks[j].length = l[i].1.size := by rw [← hkk, keyR_data]; exact Array.length_toList
              rw [str_size, h2]
              unfold maxLen
              omega)
            rw [h]
            simp [str]
          obtain ⟨c, hrun, hatc, -⟩ := hown4.lookup_int mlaw Try.underlying60 Try.underlying3 (mzero _) hkeyOf
          obtain rfl : (i : Int) = c := by
            have h := (hati (.lit (.int .i64 0))).symm.trans hatc
            injection h with h
            injection h
          have hsn : (ks.take (j + 1)).map (pickR l) = (ks.take j).map (pickR l) ++ [l[i]] := by
            rw [List.take_succ_eq_append_getElem hjk, List.map_append]
            unfold pickR
            simp [hfind]
          have hal : ((ks.take j).map (pickR l)).length = j := by rw [List.length_map, List.length_take]; omega
          obtain ⟨b, o, rfl, -, hbs, c0, c1, c2, c3, c4⟩ := (HR.out.below hb4).at i hi
          have hix := run_idx5 b o l.length cap i hi
          have Hsn := Go.Lib.hid hsn; clear hsn
          generalize (ks.take j).map (pickR l) = acc at *
          clear hatc hati hfind hkk hkeyOf
          generalize l[i] = x at *
          obtain ⟨kx, gx, ax, nx, sx⟩ := x
          simp only [] at c0 c1 c2 c3 c4 hones Hsn
          have C1 := Go.Lib.hid fun W => frec_c kx gx ax nx sx W (by omega) (by omega)
          unfold recV at C1
          generalize str ks[j] = kj at *
          have Hown := Go.Lib.hid hown; clear hown hown4
          have hgb := Go.Lib.hid hgB
          clear hones
          go_wp2_with fail
          refine (C1.out _).mono ?_
          rintro e w5 ⟨rfl, hc⟩
          have hg5 := grown_then (grown_then hg hc) (below_one w5 (.cells #[.string kx, .bool gx, .int .i64 ax, .int .i64 nx, .string sx] 25))
          have hown5 := (Hown.out.below hc).below (below_one w5 (.cells #[.string kx, .bool gx, .int .i64 ax, .int .i64 nx, .string sx] 25))
          have hrc := rc5_new w5 (kx, gx, ax, nx, sx)
          simp only [] at hrc
          unfold OwnRec at hown5
          rw [hal] at hown5
          have Hg5 := Go.Lib.hid hg5
          have Hrc := Go.Lib.hid hrc
          have Hown5 := Go.Lib.hid hown5
          clear hg5 hown5 hrc hc hg C1 Hown c0 c1 c2 c3 c4 hkc4 hkc hrun hix hb4
          go_wp2_with (first
            | (with_reducible show wpList _ _ _ (⟨some 42, _, _, _, _, _⟩ :: _) _ _; go_loud (refine wpList_append_fits _ rfl (.tmp 33) (.tmp 41) 40 rfl w.heap.size 25 i5 5 Try.underlying40 I5.out.1 I5.out.2.2.1 G0 j M (flat5 acc) rfl Hown5.out ⟨w5.heap.size, 0, none⟩ 1 1 (rc5 (kx, gx, ax, nx, sx)) rfl rfl Hrc.out (rc5_one _) (by omega) ?_); intro w6 hown6 hg6)
            | fail)
          have hg7 := Hg5.out.trans hg6
          refine ⟨⟨j + 1, by omega, by go_num, rfl, ?_, hg7⟩, by simp only [intOf]; omega⟩
          rw [Hsn.out]
          exact own_snoc hal hown6
        · obtain rfl : j = M := by omega
          rw [List.take_of_length_le (by rw [hksM.out]; omega), Hnew.out] at hown
          have hb4 := hbc3.grown hg hbc3.size (fun j hj => by cases hj; omega)
          go_wp2_with fail
          go_ret
          exact ⟨_, rfl, hown, hb4⟩

end Go.Proofs.Ytmlndgkpbodnnaa

namespace Go.Proofs.Ytmlndgkpbodnnaa
open Go.RowKit Go.Op

theorem g10_1 : mayRec (str [97]) false 1 1 (str []) = true := by decide +kernel
theorem g10_2 : mayRec (str [97]) true 0 0 (str []) = true := by decide +kernel
theorem g10_3 : mayRec (str [97]) false 0 0 (str []) = false := by decide +kernel
theorem g10_4 : eqRec (str [97]) false 1 1 (str []) (str [97]) false 1 1 (str []) = true := by decide +kernel
theorem g10_5 : eqRec (str [97]) false 1 1 (str []) (str [97]) true 0 0 (str []) = false := by decide +kernel
theorem g10_6 : recB [97] false 1 1 [] = [2, 97, 2, 2] := by decide +kernel
theorem g10_7 : readB [2, 97, 2, 2, 7] = (([97], false, 1, 1, []), 4, 0) := by
  have := readB_put [97] false 1 1 [] [7] g10_1 (by omega) (by omega)
  rw [g10_6] at this
  exact this
theorem g10_8 : newestR [(⟨#[97]⟩, false, 1, 1, ⟨#[]⟩), (⟨#[48]⟩, true, 0, 0, ⟨#[]⟩), (⟨#[97]⟩, true, 0, 0, ⟨#[]⟩)] = [(⟨#[48]⟩, true, 0, 0, ⟨#[]⟩), (⟨#[97]⟩, true, 0, 0, ⟨#[]⟩)] := by
  simp [newestR, newestK, setGo, keyR, ByteArray.toList_eq, bytesLess]

def r10 : RecT := (⟨#[97]⟩, false, 1, 1, ⟨#[]⟩)
def z10 : RecT := (⟨#[48]⟩, true, 0, 0, ⟨#[]⟩)
def g10 : RecT := (⟨#[97]⟩, true, 0, 0, ⟨#[]⟩)
abbrev q10 (k : ByteArray) (g : Bool) (a b : Int) : Obj := .cells #[.string k, .bool g, .int .i64 a, .int .i64 b, .string ⟨#[]⟩] 25
abbrev q3 : Obj := .cells #[.string ⟨#[97]⟩, .bool false, .int .i64 1, .int .i64 1, .string ⟨#[]⟩, .string ⟨#[48]⟩, .bool true, .int .i64 0, .int .i64 0, .string ⟨#[]⟩, .string ⟨#[97]⟩, .bool true, .int .i64 0, .int .i64 0, .string ⟨#[]⟩] 25
theorem rs3 (w : World) : RS (w.alloc (.cells #[.string ⟨#[97]⟩, .bool false, .int .i64 1, .int .i64 1, .string ⟨#[]⟩, .string ⟨#[48]⟩, .bool true, .int .i64 0, .int .i64 0, .string ⟨#[]⟩, .string ⟨#[97]⟩, .bool true, .int .i64 0, .int .i64 0, .string ⟨#[]⟩] 25)) (.slice (some ⟨w.heap.size, 0, none⟩) 3 3) [r10, z10, g10] := by
  refine ⟨some ⟨w.heap.size, 0, none⟩, 3, rfl, Nat.le_refl _, by simp [maxLen], (fun h => by cases h), fun _ => ⟨w.heap.size, 0, rfl, fun i hi => ?_⟩⟩
  have c := fun j => cell_of_row _ w.heap.size j _ _ _ (heap_alloc_new w (.cells #[.string ⟨#[97]⟩, .bool false, .int .i64 1, .int .i64 1, .string ⟨#[]⟩, .string ⟨#[48]⟩, .bool true, .int .i64 0, .int .i64 0, .string ⟨#[]⟩, .string ⟨#[97]⟩, .bool true, .int .i64 0, .int .i64 0, .string ⟨#[]⟩] 25))
  match i, hi with
  | 0, _ => exact ⟨c 0, c 1, c 2, c 3, c 4⟩
  | 1, _ => exact ⟨c 5, c 6, c 7, c 8, c 9⟩
  | 2, _ => exact ⟨c 10, c 11, c 12, c 13, c 14⟩
  | i + 3, hi => exact absurd (show i + 3 < 3 from hi) (by omega)

set_option maxHeartbeats 1000000 in
set_option maxRecDepth 100000 in
theorem begun_c (w : World) : Calls Try.prog 8 #[] w fun e w' => e = .returned (.bool true) ∧ Below w.heap.size w w' := by
  have c1 := fun W => pput_c (.slice none 0 0) [] [97] false 1 1 [] W (RB.nil _) g10_1 (by omega) (by omega) (by simp)
  have c2 := fun v W (h : RB W v [2, 97, 2, 2, 7]) => pget_c v [2, 97, 2, 2, 7] W h
  have c3 := fun v W (h : RS W v [r10, z10, g10]) => pnewest_c v [r10, z10, g10] W h (by simp) (by intro x hx; simp only [List.mem_cons, List.not_mem_nil, or_false] at hx; rcases hx with rfl | rfl | rfl <;> decide)
  have c4 := fun W => pmay_c ⟨#[97]⟩ false 1 1 ⟨#[]⟩ W (by decide) (by decide)
  have c5 := fun W => pmay_c ⟨#[97]⟩ true 0 0 ⟨#[]⟩ W (by decide) (by decide)
  have c6 := fun W => pmay_c ⟨#[97]⟩ false 0 0 ⟨#[]⟩ W (by decide) (by decide)
  have c7 := fun W => peq_c ⟨#[97]⟩ false 1 1 ⟨#[]⟩ ⟨#[97]⟩ false 1 1 ⟨#[]⟩ W
  have c8 := fun W => peq_c ⟨#[97]⟩ false 1 1 ⟨#[]⟩ ⟨#[97]⟩ true 0 0 ⟨#[]⟩ W
  rw [g10_6] at c1
  rw [g10_7] at c2
  rw [show newestR [r10, z10, g10] = [z10, g10] from g10_8] at c3
  rw [show mayRec ⟨#[97]⟩ false 1 1 ⟨#[]⟩ = true from g10_1] at c4
  rw [show mayRec ⟨#[97]⟩ true 0 0 ⟨#[]⟩ = true from g10_2] at c5
  rw [show mayRec ⟨#[97]⟩ false 0 0 ⟨#[]⟩ = false from g10_3] at c6
  rw [show eqRec ⟨#[97]⟩ false 1 1 ⟨#[]⟩ ⟨#[97]⟩ false 1 1 ⟨#[]⟩ = true from g10_4] at c7
  rw [show eqRec ⟨#[97]⟩ false 1 1 ⟨#[]⟩ ⟨#[97]⟩ true 0 0 ⟨#[]⟩ = false from g10_5] at c8
  unfold rr at c2
  simp only [] at c2
  rw [show str [97] = ⟨#[97]⟩ from rfl, show str [] = ⟨#[]⟩ from rfl] at c1 c2
  unfold recV at c1 c2 c4 c5 c6 c7 c8
  have C1 := Go.Lib.hid c1; clear c1
  have C2 := Go.Lib.hid c2; clear c2
  have C3 := Go.Lib.hid c3; clear c3
  have C4 := Go.Lib.hid c4; clear c4
  have C5 := Go.Lib.hid c5; clear c5
  have C6 := Go.Lib.hid c6; clear c6
  have C7 := Go.Lib.hid c7; clear c7
  have C8 := Go.Lib.hid c8; clear c8
  have hA := two_first w (q10 ⟨#[97]⟩ false 1 1) (q10 ⟨#[97]⟩ true 0 0)
  have hB := heap_alloc2_new w (q10 ⟨#[97]⟩ false 1 1) (q10 ⟨#[97]⟩ true 0 0)
  have hbb := below_two w (q10 ⟨#[97]⟩ false 1 1) (q10 ⟨#[97]⟩ true 0 0)
  go_enter Try.func8, Try.ntmps8
  go_wp2_with fail
  generalize (w.alloc (q10 ⟨#[97]⟩ false 1 1)).alloc (q10 ⟨#[97]⟩ true 0 0) = wa at *
  have hlA := row_lt hA
  have hlB := row_lt hB
  refine (C1.out _).mono ?_
  rintro e w1 ⟨v1, rfl, own1, hc⟩
  have hA := row_kept hA hc
  have hB := row_kept hB hc
  have hbb := hbb.trans (hc.mono hbb.size)
  have hs1 := hc.size
  clear hc
  have own2 := own1.alloc (.cells #[.int .u8 7] 5)
  have hone := RB.lits w1 5 (0, 0) [7] #[.int .u8 7] 1 rfl rfl (by decide)
  have hA := row_kept hA (below_one w1 (.cells #[.int .u8 7] 5))
  have hB := row_kept hB (below_one w1 (.cells #[.int .u8 7] 5))
  have hbb2 := hbb.trans ((below_one w1 (.cells #[.int .u8 7] 5)).mono hbb.size)
  have hs2 := Nat.le_trans hs1 (below_one w1 (.cells #[.int .u8 7] 5)).size
  have hbw := hbb.size
  clear hbb C1
  have hws : w.heap.size ≤ wa.heap.size := by omega
  go_wp2_with (first
    | (with_reducible show wpList _ _ _ (⟨some 14, _, _, _, _, _⟩ :: _) _ _; go_loud (refine wpList_append_RB rfl (.tmp 12) (.tmp 13) 26 rfl wa.heap.size 5 Try.underlying26 info8 v1 (.slice (some ⟨w1.heap.size, 0, none⟩) 1 1) ([] ++ [2, 97, 2, 2]) [7] rfl rfl own2 hone (by simp) hs2 ?_); intro v3 w3 hown3 hg3; have hbb3 := hbb2.grown hg3 (Nat.le_trans hws hs2) (fun k hk => Nat.le_trans hws (own2.row k hk)); have hb3 := grown_below hg3 hs2 own2.row; have hA3 := (hb3.block _ hlA).trans hA; have hB3 := (hb3.block _ hlB).trans hB; have hrb := hown3.rb; clear hg3 hA hB hown3 own2 own1 hb3 hbb2 hone)
    | fail)
  refine (C2.out _ _ hrb).mono ?_
  rintro e w4 ⟨rfl, hc⟩
  have hA := row_kept hA3 hc
  have hB := row_kept hB3 hc
  have hbb := hbb3.trans (hc.mono hbb3.size)
  have hA := row_kept hA (below_one w4 (q10 ⟨#[97]⟩ false 1 1))
  have hB := row_kept hB (below_one w4 (q10 ⟨#[97]⟩ false 1 1))
  have hX := heap_alloc_new w4 (q10 ⟨#[97]⟩ false 1 1)
  have hbb := hbb.trans ((below_one w4 (q10 ⟨#[97]⟩ false 1 1)).mono hbb.size)
  clear hc hA3 hB3 hbb3 C2 hrb
  dsimp only [q10] at hA hB hX hbb
  obtain ⟨x0, x1, x2, x3, x4⟩ := row5 hA
  obtain ⟨y0, y1, y2, y3, y4⟩ := row5 hB
  go_wp2_with fail
  have hsz : (w4.alloc (q10 ⟨#[97]⟩ false 1 1)).heap.size = w4.heap.size + 1 := by simp
  generalize w4.alloc (q10 ⟨#[97]⟩ false 1 1) = wb at *
  have hr3 := rs3 wb
  rw [hsz] at hr3
  have b3 := below_one wb q3
  have hA := row_kept hA b3
  have hB := row_kept hB b3
  have hX := row_kept hX b3
  have hbb := hbb.trans (b3.mono hbb.size)
  clear b3
  refine (C3.out _ _ hr3).mono ?_
  rintro e w5 ⟨v5, rfl, hown5, hc⟩
  have hrs := hown5.rs
  have hA := row_kept hA hc
  have hB := row_kept hB hc
  have hX := row_kept hX hc
  have hbb := hbb.trans (hc.mono hbb.size)
  clear hc hr3 C3 hown5 x0 x1 x2 x3 x4 y0 y1 y2 y3 y4
  obtain ⟨al, cl, rfl, -⟩ := hrs.form
  simp only [List.length_cons, List.length_nil, Nat.zero_add, Nat.reduceAdd] at hrs ⊢
  obtain ⟨x0, x1, x2, x3, x4⟩ := row5 hA
  obtain ⟨y0, y1, y2, y3, y4⟩ := row5 hB
  obtain ⟨-, -, -, z3, -⟩ := row5 hX
  obtain ⟨bl, ol, el, -, -, -, l1, -, -, -⟩ := hrs.at 1 (by decide)
  cases el
  have l1 : w5.cell? ⟨bl, ol + 5 + 1, none⟩ = some (.bool true) := l1
  have HL := Go.Lib.hid fun W (h : RS W (.slice (some ⟨bl, ol, none⟩) 2 cl) [z10, g10]) => (show W.cell? ⟨bl, ol + 5 + 1, none⟩ = some (.bool true) from by obtain ⟨b', o', e', -, -, -, l1, -⟩ := h.at 1 (by decide); cases e'; exact l1)
  have hix : ∀ W : World, (Instr.indexAt 40 (.slice (some ⟨bl, ol, none⟩) 2 cl) (.int .i64 1)).run Try.prog W = .ok (.pointer (some ⟨bl, ol + 5, none⟩)) W := run_idx5 bl ol 2 cl 1 (by omega)
  go_wp2_with fail
  refine (C4.out _).mono ?_
  rintro e w6 ⟨rfl, hc⟩
  have hA := row_kept hA hc
  have hB := row_kept hB hc
  have hX := row_kept hX hc
  have hrs := hrs.below hc
  have hbb := hbb.trans (hc.mono hbb.size)
  clear hc C4 x0 x1 x2 x3 x4 y0 y1 y2 y3 y4 z3 l1
  obtain ⟨x0, x1, x2, x3, x4⟩ := row5 hA
  obtain ⟨y0, y1, y2, y3, y4⟩ := row5 hB
  obtain ⟨-, -, -, z3, -⟩ := row5 hX
  have l1 := HL.out _ hrs
  go_wp2_with fail
  refine (C5.out _).mono ?_
  rintro e w7 ⟨rfl, hc⟩
  have hA := row_kept hA hc
  have hB := row_kept hB hc
  have hX := row_kept hX hc
  have hrs := hrs.below hc
  have hbb := hbb.trans (hc.mono hbb.size)
  clear hc C5 x0 x1 x2 x3 x4 y0 y1 y2 y3 y4 z3 l1
  obtain ⟨x0, x1, x2, x3, x4⟩ := row5 hA
  obtain ⟨y0, y1, y2, y3, y4⟩ := row5 hB
  obtain ⟨-, -, -, z3, -⟩ := row5 hX
  have l1 := HL.out _ hrs
  go_wp2_with fail
  refine (C6.out _).mono ?_
  rintro e w8 ⟨rfl, hc⟩
  have hA := row_kept hA hc
  have hB := row_kept hB hc
  have hX := row_kept hX hc
  have hrs := hrs.below hc
  have hbb := hbb.trans (hc.mono hbb.size)
  clear hc C6 x0 x1 x2 x3 x4 y0 y1 y2 y3 y4 z3 l1
  obtain ⟨x0, x1, x2, x3, x4⟩ := row5 hA
  obtain ⟨y0, y1, y2, y3, y4⟩ := row5 hB
  obtain ⟨-, -, -, z3, -⟩ := row5 hX
  have l1 := HL.out _ hrs
  go_wp2_with fail
  refine (C7.out _).mono ?_
  rintro e w9 ⟨rfl, hc⟩
  have hA := row_kept hA hc
  have hB := row_kept hB hc
  have hX := row_kept hX hc
  have hrs := hrs.below hc
  have hbb := hbb.trans (hc.mono hbb.size)
  clear hc C7 x0 x1 x2 x3 x4 y0 y1 y2 y3 y4 z3 l1
  obtain ⟨x0, x1, x2, x3, x4⟩ := row5 hA
  obtain ⟨y0, y1, y2, y3, y4⟩ := row5 hB
  obtain ⟨-, -, -, z3, -⟩ := row5 hX
  have l1 := HL.out _ hrs
  go_wp2_with fail
  refine (C8.out _).mono ?_
  rintro e w10 ⟨rfl, hc⟩
  have hA := row_kept hA hc
  have hB := row_kept hB hc
  have hX := row_kept hX hc
  have hrs := hrs.below hc
  have hbb := hbb.trans (hc.mono hbb.size)
  clear hc C8 x0 x1 x2 x3 x4 y0 y1 y2 y3 y4 z3 l1
  obtain ⟨x0, x1, x2, x3, x4⟩ := row5 hA
  obtain ⟨y0, y1, y2, y3, y4⟩ := row5 hB
  obtain ⟨-, -, -, z3, -⟩ := row5 hX
  have l1 := HL.out _ hrs
  go_wp2_with fail
  go_ret
  exact ⟨rfl, hbb⟩

end Go.Proofs.Ytmlndgkpbodnnaa

namespace Go.Proofs.Ytmlndgkpbodnnaa
open Go.RowKit

def mayT (x : RecT) : Bool := mayRec x.1 x.2.1 x.2.2.1 x.2.2.2.1 x.2.2.2.2
/-- What may be is short. -/
theorem mayT_short {x : RecT} (h : mayT x = true) : x.1.size ≤ 16 ∧ x.2.2.2.2.size ≤ 24 := by
  obtain ⟨key, gone, k, n, s⟩ := x
  have hz : ∀ s : ByteArray, s.toList.isEmpty = true → s.size ≤ 24 := by
    intro s hs
    rw [ByteArray.toList_eq, List.isEmpty_iff] at hs
    have : s.size = 0 := by
      show s.data.size = 0
      rw [← Array.length_toList, hs]; rfl
    omega
  unfold mayT mayRec mayK at h
  simp only [Bool.and_eq_true, decide_eq_true_eq] at h
  refine ⟨h.1.2, ?_⟩
  show s.size ≤ 24
  have h2 := h.2
  cases gone with
  | true =>
    simp only [if_true, Bool.and_eq_true] at h2
    exact hz _ h2.2
  | false =>
    simp only [Bool.false_eq_true, if_false] at h2
    unfold mayR at h2
    split at h2
    · exact hz _ h2
    · split at h2
      · simp only [Bool.and_eq_true, decide_eq_true_eq] at h2
        exact h2.1.2
      · cases h2

end Go.Proofs.Ytmlndgkpbodnnaa

namespace Go.Proofs.Ytmlndgkpbodnnaa
open Go.RowKit

def cutR (x : RecT) : RecT := (str ((bl x.1).take 20), x.2.1, x.2.2.1, x.2.2.2.1, str ((bl x.2.2.2.2).take 30))

theorem cut_sizes {l : List RecT} {n : Nat} {x : RecT} (h : x ∈ (l.take n).map cutR) : x.1.size ≤ 20 ∧ x.2.2.2.2.size ≤ 30 := by
  obtain ⟨y, -, rfl⟩ := List.mem_map.1 h
  unfold cutR
  simp only []
  rw [str_size, str_size, List.length_take, List.length_take]
  omega
/-- The reference's May of a record as one letter. -/
theorem rmayT_c (kx : ByteArray) (gx : Bool) (ax nx : Int) (sx : ByteArray) (w : World) (h1 : kx.size ≤ 20) (h2 : sx.size ≤ 30) :
    Calls Try.prog 11 #[.agg #[.string kx, .bool gx, .int .i64 ax, .int .i64 nx, .string sx]] w fun e w' => e = .returned (.bool (mayT (kx, gx, ax, nx, sx))) ∧ Below w.heap.size w w' :=
  rmayrec_c kx gx ax nx sx w (by unfold maxLen; omega) (by unfold maxLen; omega)
end Go.Proofs.Ytmlndgkpbodnnaa

namespace Go.Proofs.Ytmlndgkpbodnnaa
open Go.RowKit

set_option maxHeartbeats 2000000 in
set_option maxRecDepth 100000 in
theorem recs_c (v : Value) (l : List RecT) (n : Nat) (w : World) (hv : RRec w v l) (hn : n ≤ 1000) :
    Calls Try.prog 19 #[v, .int .i64 (n : Int)] w fun e w' => ∃ v', e = .returned v' ∧ OwnRec w' w.heap.size v' ((l.take n).map cutR) ∧ Below w.heap.size w w' := by
  have Hok := Go.Lib.hid hv.ok
  have hrs := hv.rs
  obtain ⟨a, cap, rfl, hm⟩ := hrs.form
  clear hv
  have HR := Go.Lib.hid hrs; clear hrs
  go_enter Try.func19, Try.ntmps19
  go_wp2_with fail
  go_loopw [5, 6] (fun vb i w2 => ∃ k : Nat, k ≤ l.length ∧ k ≤ n ∧ i = .int .i64 (k : Int) ∧ OwnRec w2 w.heap.size vb ((l.take k).map cutR) ∧ Below w.heap.size w w2) (fun _ i _ => n - (intOf i).toNat)
  case atStart => exact ⟨0, by omega, by omega, rfl, by simpa using OwnRec.nil _ _, Below.refl _ _⟩
  case round =>
    obtain ⟨k, hk, hkn, rfl, hown, hbc⟩ := hrel
    by_cases hlt : k < l.length
    · by_cases hltn : k < n
      · obtain ⟨b, o, rfl, -, hbs, c0, c1, c2, c3, c4⟩ := (HR.out.below hbc).at k hlt
        have ok := Hok.out l[k] (List.getElem_mem hlt)
        have hsn : (l.take (k + 1)).map cutR = (l.take k).map cutR ++ [cutR l[k]] := by rw [List.take_succ_eq_append_getElem hlt, List.map_append]; rfl
        have hml : ((l.take k).map cutR).length ≤ 1000 := by rw [List.length_map, List.length_take]; omega
        generalize l[k] = x at *
        obtain ⟨key, gone, rk, rn, rs⟩ := x
        obtain ⟨ok1, -, -, ok4⟩ := ok
        simp only [] at c0 c1 c2 c3 c4 ok1 ok4
        have C1 := Go.Lib.hid fun W => rcut_c key gone rk rn rs W ok1 ok4
        have hcx : cutR (key, gone, rk, rn, rs) = (str ((bl key).take 20), gone, rk, rn, str ((bl rs).take 30)) := rfl
        rw [hcx] at hsn
        clear hcx
        generalize (l.take k).map cutR = m at *
        generalize hk2 : str ((bl key).take 20) = key2 at *
        generalize hs2 : str ((bl rs).take 30) = s2 at *
        unfold recV at C1
        have Hsn := Go.Lib.hid hsn; clear hsn
        have Hix := Go.Lib.hid (run_idx5 b o l.length cap k hlt)
        clear ok1 ok4 hk2 hs2
        go_wp2_with fail
        refine (C1.out _).mono ?_
        rintro e w2 ⟨rfl, hc⟩
        have hown2 := OwnRec.below (hown.below hc) (below_one w2 (.cells #[.string key2, .bool gone, .int .i64 rk, .int .i64 rn, .string s2] 25))
        have hbc2 := hbc.trans (hc.mono hbc.size)
        have hbc3 := hbc2.trans ((below_one w2 (.cells #[.string key2, .bool gone, .int .i64 rk, .int .i64 rn, .string s2] 25)).mono hbc2.size)
        have hone := RS.one w2 (key2, gone, rk, rn, s2)
        simp only [] at hone
        have hbs := hbc3.size
        clear hc hown hbc c0 c1 c2 c3 c4 Hix C1 hbc2
        go_wp2_with (first
          | (with_reducible show wpList _ _ _ (⟨some 25, _, _, _, _, _⟩ :: _) _ _; go_loud (refine wpList_append_recs rfl (.tmp 18) (.tmp 24) rfl w.heap.size u5 (.slice (some ⟨w2.heap.size, 0, none⟩) 1 1) m [(key2, gone, rk, rn, s2)] rfl rfl hown2 hone (by simp; omega) hbs ?_); intro v4 w4 hown4 hg4; have hbc4 := hbc3.grown hg4 hbs hown2.row)
          | fail)
        rw [← Hsn.out] at hown4
        exact ⟨⟨k + 1, by omega, by omega, by go_num, hown4, hbc4⟩, by simp only [intOf]; omega⟩
      · obtain rfl : k = n := by omega
        go_wp2_with fail
        go_ret
        exact ⟨_, rfl, hown, hbc⟩
    · obtain rfl : k = l.length := by omega
      rw [List.take_of_length_le (Nat.le_refl _)] at hown
      have he : Hid (l.map cutR = (l.take n).map cutR) := by unfold Hid; rw [List.take_of_length_le hkn]
      rw [he.out] at hown
      go_wp2_with fail
      go_ret
      exact ⟨_, rfl, hown, hbc⟩

end Go.Proofs.Ytmlndgkpbodnnaa

namespace Go.Proofs.Ytmlndgkpbodnnaa
open Go.RowKit

def VE (b1 o1 b2 o2 n m cap1 cap2 k : Nat) (kx : ByteArray) (gx : Bool) (ax nx : Int) (sx ky : ByteArray) (gy : Bool) (ay ny : Int) (sy : ByteArray) (q : Bool) : Nat → World → Value → Prop
  | 17, _, v => v = .slice (some ⟨b1, o1, none⟩) n cap1
  | 18, _, v => v = .int .i64 (k : Int)
  | 19, _, v => v = .pointer (some ⟨b1, o1 + k * 5, none⟩)
  | 20, _, v => v = .agg #[.string kx, .bool gx, .int .i64 ax, .int .i64 nx, .string sx]
  | 21, _, v => v = .slice (some ⟨b2, o2, none⟩) m cap2
  | 22, _, v => v = .int .i64 (k : Int)
  | 23, _, v => v = .pointer (some ⟨b2, o2 + k * 5, none⟩)
  | 24, _, v => v = .agg #[.string ky, .bool gy, .int .i64 ay, .int .i64 ny, .string sy]
  | 25, _, v => v = .bool q
  | 26, _, v => v = .bool (!q)
  | _, _, _ => True

theorem VE_below (b1 o1 b2 o2 n m cap1 cap2 k : Nat) (kx : ByteArray) (gx : Bool) (ax nx : Int) (sx ky : ByteArray) (gy : Bool) (ay ny : Int) (sy : ByteArray) (q : Bool) : ∀ (i : Nat) (w w' : World) (v : Value), VE b1 o1 b2 o2 n m cap1 cap2 k kx gx ax nx sx ky gy ay ny sy q i w v → Below w.heap.size w w' → VE b1 o1 b2 o2 n m cap1 cap2 k kx gx ax nx sx ky gy ay ny sy q i w' v := by
  intro i w w' v h hb
  unfold VE at h ⊢
  split at h <;> first | exact h | trivial | exact RB.below h hb | exact Own.below h hb

theorem eqGo {l m : List RecT} {k : Nat} (h1 : k < l.length) (h2 : k < m.length) (he : l.take k = m.take k) (h : l[k] = m[k]) : l.take (k + 1) = m.take (k + 1) := by
  rw [List.take_succ_eq_append_getElem h1, List.take_succ_eq_append_getElem h2, he, h]

set_option maxHeartbeats 2000000 in
set_option maxRecDepth 100000 in
theorem reqrecs_c (u v : Value) (l m : List RecT) (w : World) (hu : RS w u l) (hv : RS w v m) :
    Calls Try.prog 21 #[u, v] w fun e w' => e = .returned (.bool (decide (l = m))) ∧ Below w.heap.size w w' := by
  obtain ⟨a1, cap1, rfl, hm1⟩ := hu.form
  obtain ⟨a2, cap2, rfl, hm2⟩ := hv.form
  have HU := Go.Lib.hid hu; clear hu
  have HV := Go.Lib.hid hv; clear hv
  by_cases hl : l.length = m.length
  · have Hl := Go.Lib.hid hl
    have hlb : ((l.length : Int) == (m.length : Int)) = true := by simp [hl]
    have hln : ((l.length : Int) = (m.length : Int)) := by omega
    go_enter Try.func21, Try.ntmps21
    go_wp2_with fail
    clear hln hlb
    have hl2 := Hl.out
    have Hl2 := Go.Lib.hid hl2; clear hl2 hl
    go_loopw [5] (fun i w2 => ∃ k : Nat, k ≤ l.length ∧ i = .int .i64 (k : Int) ∧ l.take k = m.take k ∧ Below w.heap.size w w2) (fun i _ => l.length - (intOf i).toNat)
    case atStart => exact ⟨0, by omega, rfl, by simp, Below.refl _ _⟩
    case round =>
      obtain ⟨k, hk, rfl, htk, hbc⟩ := hrel
      have Htk := Go.Lib.hid htk; clear htk
      by_cases hlt : k < l.length
      · have hlt2 : k < m.length := by have := Hl.out; omega
        obtain ⟨b1, o1, rfl, -, -, c0, c1, c2, c3, c4⟩ := (HU.out.below hbc).at k hlt
        obtain ⟨b2, o2, rfl, -, -, d0, d1, d2, d3, d4⟩ := (HV.out.below hbc).at k hlt2
        have hix1 := run_idx5 b1 o1 l.length cap1 k hlt
        have hix2 := run_idx5 b2 o2 m.length cap2 k hlt2
        have Hgo := Go.Lib.hid (fun h => eqGo hlt hlt2 Htk.out h)
        have hne := Go.Lib.hid (fun (h : l[k] ≠ m[k]) => show l ≠ m from fun e => h (by subst e; rfl))
        have CE := reqrec_c l[k].1 l[k].2.1 l[k].2.2.1 l[k].2.2.2.1 l[k].2.2.2.2 m[k].1 m[k].2.1 m[k].2.2.1 m[k].2.2.2.1 m[k].2.2.2.2
        rw [eqRec_iff] at CE
        generalize hx : l[k] = x at *
        generalize hy : m[k] = y at *
        obtain ⟨kx, gx, ax, nx, sx⟩ := x
        obtain ⟨ky, gy, ay, ny, sy⟩ := y
        simp only [] at c0 c1 c2 c3 c4 d0 d1 d2 d3 d4 CE
        generalize hq : decide (((kx, gx, ax, nx, sx) : RecT) = (ky, gy, ay, ny, sy)) = q at *
        unfold recV at CE
        have CE := Go.Lib.hid CE
        have Hix1 := Go.Lib.hid hix1; clear hix1
        have Hix2 := Go.Lib.hid hix2; clear hix2
        have Hq := Go.Lib.hid hq; clear hq hx hy
        go_upto_region 6 with (fail)
        refine wp_region_each (by kernel_rfl) (VE b1 o1 b2 o2 l.length m.length cap1 cap2 k kx gx ax nx sx ky gy ay ny sy q) (VE_below b1 o1 b2 o2 l.length m.length cap1 cap2 k kx gx ax nx sx ky gy ay ny sy q) (by decide +kernel) (by decide +kernel) (by rfl) [17, 18, 19, 20, 21, 22, 23, 24, 25, 26] (by rfl) ?_ ?_
        · intro i o ho a w6 hb6 hlen hg
          have c0 := cell_kept c0 hb6
          have c1 := cell_kept c1 hb6
          have c2 := cell_kept c2 hb6
          have c3 := cell_kept c3 hb6
          have c4 := cell_kept c4 hb6
          have d0 := cell_kept d0 hb6
          have d1 := cell_kept d1 hb6
          have d2 := cell_kept d2 hb6
          have d3 := cell_kept d3 hb6
          have d4 := cell_kept d4 hb6
          have hix1 := Hix1.out w6
          have hix2 := Hix2.out w6
          match i, ho with
          | 0, ho =>
            obtain rfl := Option.some.inj ho
            have h0 := given_old hg 0 (by decide +kernel)
            clear hg
            exact st_yield ho (wanted_none rfl) (.slice (some ⟨b1, o1, none⟩) l.length cap1) w6 (by simp [execOp, Act.eval, h0, go_sem]) ⟨_, rfl, Below.refl _ _, by rintro t' ⟨⟩; rfl⟩
          | 1, ho =>
            obtain rfl := Option.some.inj ho
            have h5 := given_old hg 5 (by decide +kernel)
            clear hg
            exact st_yield ho (wanted_none rfl) (.int .i64 (k : Int)) w6 (by simp [execOp, Act.eval, h5, go_sem]) ⟨_, rfl, Below.refl _ _, by rintro t' ⟨⟩; rfl⟩
          | 2, ho =>
            obtain rfl := Option.some.inj ho
            obtain ⟨_, h17, rfl⟩ := given_fed hg 17 (by decide +kernel)
            obtain ⟨_, h18, rfl⟩ := given_fed hg 18 (by decide +kernel)
            clear hg
            exact st_yield ho (wanted_none rfl) (.pointer (some ⟨b1, o1 + k * 5, none⟩)) w6 (by simp [execOp, Act.eval, h17, h18, go_sem, hix1]) ⟨_, rfl, Below.refl _ _, by rintro t' ⟨⟩; rfl⟩
          | 3, ho =>
            obtain rfl := Option.some.inj ho
            obtain ⟨_, h19, rfl⟩ := given_fed hg 19 (by decide +kernel)
            clear hg
            exact st_yield ho (wanted_none rfl) (.agg #[.string kx, .bool gx, .int .i64 ax, .int .i64 nx, .string sx]) w6 (by simp [execOp, Act.eval, h19, go_sem, c0, c1, c2, c3, c4]) ⟨_, rfl, Below.refl _ _, by rintro t' ⟨⟩; rfl⟩
          | 4, ho =>
            obtain rfl := Option.some.inj ho
            have h1 := given_old hg 1 (by decide +kernel)
            clear hg
            exact st_yield ho (wanted_none rfl) (.slice (some ⟨b2, o2, none⟩) m.length cap2) w6 (by simp [execOp, Act.eval, h1, go_sem]) ⟨_, rfl, Below.refl _ _, by rintro t' ⟨⟩; rfl⟩
          | 5, ho =>
            obtain rfl := Option.some.inj ho
            have h5 := given_old hg 5 (by decide +kernel)
            clear hg
            exact st_yield ho (wanted_none rfl) (.int .i64 (k : Int)) w6 (by simp [execOp, Act.eval, h5, go_sem]) ⟨_, rfl, Below.refl _ _, by rintro t' ⟨⟩; rfl⟩
          | 6, ho =>
            obtain rfl := Option.some.inj ho
            obtain ⟨_, h21, rfl⟩ := given_fed hg 21 (by decide +kernel)
            obtain ⟨_, h22, rfl⟩ := given_fed hg 22 (by decide +kernel)
            clear hg
            exact st_yield ho (wanted_none rfl) (.pointer (some ⟨b2, o2 + k * 5, none⟩)) w6 (by simp [execOp, Act.eval, h21, h22, go_sem, hix2]) ⟨_, rfl, Below.refl _ _, by rintro t' ⟨⟩; rfl⟩
          | 7, ho =>
            obtain rfl := Option.some.inj ho
            obtain ⟨_, h23, rfl⟩ := given_fed hg 23 (by decide +kernel)
            clear hg
            exact st_yield ho (wanted_none rfl) (.agg #[.string ky, .bool gy, .int .i64 ay, .int .i64 ny, .string sy]) w6 (by simp [execOp, Act.eval, h23, go_sem, d0, d1, d2, d3, d4]) ⟨_, rfl, Below.refl _ _, by rintro t' ⟨⟩; rfl⟩
          | 8, ho =>
            obtain rfl := Option.some.inj ho
            obtain ⟨_, h20, rfl⟩ := given_fed hg 20 (by decide +kernel)
            obtain ⟨_, h24, rfl⟩ := given_fed hg 24 (by decide +kernel)
            clear hg
            exact st_enter (w1 := w6) ho (wanted_none rfl) 14 #[.agg #[.string kx, .bool gx, .int .i64 ax, .int .i64 nx, .string sx], .agg #[.string ky, .bool gy, .int .i64 ay, .int .i64 ny, .string sy]] (by simp [execOp, Act.eval, h20, h24, resolve, go_sem]) ((CE.out _).mono (by rintro e w7 ⟨rfl, hb7⟩; exact ⟨_, rfl, _, rfl, hb7, by rintro t' ⟨⟩; rfl⟩))
          | 9, ho =>
            obtain rfl := Option.some.inj ho
            obtain ⟨_, h25, rfl⟩ := given_fed hg 25 (by decide +kernel)
            clear hg
            exact st_yield ho (wanted_none rfl) (.bool (!q)) w6 (by simp [execOp, Act.eval, h25, go_sem]) ⟨_, rfl, Below.refl _ _, by rintro t' ⟨⟩; rfl⟩
          | n + 10, ho => simp at ho
        · intro f w6 hb6 hv
          have h26 := hv 26 (by decide)
          simp only [VE] at h26
          have hbc6 := hbc.trans (hb6.mono hbc.size)
          clear c0 c1 c2 c3 c4 d0 d1 d2 d3 d4 Hix1 Hix2 CE hv hbc hb6
          unfold putAll
          simp only [List.foldl]
          simp only [h26]
          cases q with
          | true =>
            have hgo := Go.Lib.hid (Hgo.out (of_decide_eq_true Hq.out))
            go_simp
            go_wp2_with fail
            go_roundw
            case rel => exact ⟨k + 1, by omega, by go_num, hgo.out, hbc6⟩
            case measure => simp only [intOf]; omega
          | false =>
            have hgo := Go.Lib.hid (decide_eq_false (hne.out (of_decide_eq_false Hq.out)))
            go_simp
            go_wp2_with fail
            go_ret
            exact ⟨ret_of (congrArg Value.bool hgo.out.symm), hbc6⟩
      · obtain rfl : k = l.length := by omega
        have hgo : l = m := by
          have := Htk.out
          rwa [List.take_of_length_le (Nat.le_refl _), List.take_of_length_le (by have := Hl.out; omega)] at this
        have Hgo := Go.Lib.hid (decide_eq_true hgo)
        clear hgo
        go_wp2_with fail
        go_ret
        exact ⟨ret_of (congrArg Value.bool Hgo.out.symm), hbc⟩
  · have hgo := Go.Lib.hid (decide_eq_false (show ¬ l = m from fun e => hl (by rw [e])))
    have hlb : ((l.length : Int) == (m.length : Int)) = false := by simp; omega
    have hln : ¬ ((l.length : Int) = (m.length : Int)) := by omega
    go_enter Try.func21, Try.ntmps21
    go_wp2_with fail
    go_ret
    exact ⟨ret_of (congrArg Value.bool hgo.out.symm), Below.refl _ _⟩

end Go.Proofs.Ytmlndgkpbodnnaa
