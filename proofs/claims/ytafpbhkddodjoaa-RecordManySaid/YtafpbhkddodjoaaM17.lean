/-
  Records: the newest ones, by rising keys (mathematics).
  Slices of records: contract of the reference's Newest.
  Mathematics of a map that says of each key where it stood last (of no code), and what is the newest of each key.
-/
import Derived.Test.YtafpbhkddodjoaaM16
import Derived.Maps.OwnSet
import Derived.Maps.OwnOps
import Derived.Sort.KeysCollected
namespace Go.Proofs.Ytafpbhkddodjoaa
open Go.RowKit Go.Op

abbrev newestR (l : List RecT) : List RecT := newestK keyR bytesLess l
theorem newestR_len (l : List RecT) : (newestR l).length ≤ l.length := by
  have : ∀ (l acc : List RecT), (l.foldl (fun a r => setGo keyR bytesLess r a false) acc).length ≤ acc.length + l.length := by
    intro l
    induction l with
    | nil => intro acc; simp
    | cons x t ih =>
      intro acc
      rw [List.foldl_cons]
      refine Nat.le_trans (ih _) ?_
      have := (setR_len x acc false).1
      simp only [List.length_cons]
      omega
  simpa [newestR, newestK] using this l []
theorem newestR_step (l : List RecT) (k : Nat) (h : k < l.length) : setR (newestR (l.take k)) l[k] = newestR (l.take (k + 1)) := by
  rw [List.take_succ_eq_append_getElem h]
  unfold newestR newestK
  rw [List.foldl_append]
  rfl

end Go.Proofs.Ytafpbhkddodjoaa

namespace Go.Proofs.Ytafpbhkddodjoaa
open Go.RowKit Go.Op

set_option maxHeartbeats 2000000 in
set_option maxRecDepth 100000 in
theorem rnewest_c (v : Value) (l : List RecT) (w : World) (hv : RS w v l) (hl : l.length ≤ 1000) :
    Calls Try.prog 22 #[v] w fun e w' => ∃ v', e = .returned v' ∧ OwnRec w' w.heap.size v' (newestR l) ∧ Below w.heap.size w w' := by
  obtain ⟨a, cap, rfl, hm⟩ := hv.form
  have HR := Go.Lib.hid hv; clear hv
  go_enter Try.func22, Try.ntmps22
  go_wp2_with fail
  go_loopw [3, 4] (fun vb i w2 => ∃ k : Nat, k ≤ l.length ∧ i = .int .i64 (k : Int) ∧ OwnRec w2 w.heap.size vb (newestR (l.take k)) ∧ Below w.heap.size w w2) (fun _ i _ => l.length - (intOf i).toNat)
  case atStart => exact ⟨0, by omega, rfl, by simpa [newestR, newestK] using OwnRec.nil _ _, Below.refl _ _⟩
  case round =>
    obtain ⟨k, hk, rfl, hown, hbc⟩ := hrel
    by_cases hlt : k < l.length
    · obtain ⟨b, o, rfl, -, hbs, c0, c1, c2, c3, c4⟩ := (HR.out.below hbc).at k hlt
      have Hst := newestR_step l k hlt
      have hln : (newestR (l.take k)).length ≤ 1000 := by have := newestR_len (l.take k); rw [List.length_take] at this; omega
      have C1 := Go.Lib.hid fun W (h : RS W u3 (newestR (l.take k))) => rset_c u3 (newestR (l.take k)) l[k].1 l[k].2.1 l[k].2.2.1 l[k].2.2.2.1 l[k].2.2.2.2 W h hln
      generalize hn : newestR (l.take k) = m at *
      generalize hx : l[k] = x at *
      obtain ⟨kx, gx, ax, nx, sx⟩ := x
      simp only [] at c0 c1 c2 c3 c4 C1
      rw [Hst] at C1
      unfold recV at C1
      generalize hn2 : newestR (l.take (k + 1)) = m2 at *
      have Hn2 := Go.Lib.hid hn2; clear hn2 hn Hst hx hln
      have hix := run_idx5 b o l.length cap k hlt
      go_wp2_with fail
      refine (C1.out _ hown.rs).mono ?_
      rintro e w2 ⟨v2, rfl, hown2, hc⟩
      have hbc2 := hbc.trans (hc.mono hbc.size)
      have hown3 := hown2.mono hbc.size
      clear hc hown hown2 c0 c1 c2 c3 c4 C1
      rw [← Hn2.out] at hown3
      go_wp2_with fail
      exact ⟨⟨k + 1, by omega, by go_num, hown3, hbc2⟩, by simp only [intOf]; omega⟩
    · obtain rfl : k = l.length := by omega
      rw [List.take_of_length_le (Nat.le_refl _)] at hown
      go_wp2_with fail
      go_ret
      exact ⟨_, rfl, hown, hbc⟩

end Go.Proofs.Ytafpbhkddodjoaa

namespace Go.Proofs.Ytafpbhkddodjoaa
open Go.Maps

/-- A record's key, as a map's. -/
def klit (x : RecT) : Lit := .string x.1.data.toList
/-- Behind n records. -/
def mapD (H : Type) (l : List RecT) : Nat → DataW H
  | 0 => .map []
  | n + 1 => (mapD H l n).put (klit (l.getD n default)) (.lit (.int .i64 (n : Int)))

theorem keyR_data (x : RecT) : keyR x = x.1.data.toList := by unfold keyR; rw [ByteArray.toList_eq]

section
variable {H : Type} {l : List RecT}
theorem mapD_isMap : ∀ n, IsMap (mapD H l n)
  | 0 => isMap_empty
  | n + 1 => (mapD_isMap n).put _ _
theorem mapD_succ (n : Nat) (h : n < l.length) : mapD H l (n + 1) = (mapD H l n).put (.string l[n].1.data.toList) (.lit (.int .i64 (n : Int))) := by
  rw [mapD]
  unfold klit
  rw [List.getD, List.getElem?_eq_getElem h]
  rfl
theorem mapD_has (k : List UInt8) : ∀ n, n ≤ l.length → (has (mapD H l n) (.string k) = true ↔ ∃ x ∈ l.take n, x.1.data.toList = k)
  | 0, _ => by
    constructor
    · intro h; cases h
    · rintro ⟨x, hx, -⟩; simp at hx
  | n + 1, h => by
    have hlt : n < l.length := h
    have ih := mapD_has k n (by omega)
    rw [mapD_succ n hlt, List.take_succ_eq_append_getElem hlt]
    by_cases e : k = l[n].1.data.toList
    · subst e
      rw [has_put_same (mapD_isMap n) (show WideAt.IsKeyLit (.string _) from trivial)]
      exact ⟨fun _ => ⟨l[n], List.mem_append_right _ (List.mem_singleton.2 rfl), rfl⟩, fun _ => rfl⟩
    · rw [has_put_other (fun h => e (by simpa using h)), ih]
      constructor
      · rintro ⟨x, hx, hk⟩; exact ⟨x, List.mem_append_left _ hx, hk⟩
      · rintro ⟨x, hx, hk⟩
        rcases List.mem_append.1 hx with hx | hx
        · exact ⟨x, hx, hk⟩
        · simp at hx
          subst hx
          exact absurd hk.symm e
theorem mapD_at (k : List UInt8) : ∀ n, n ≤ l.length → has (mapD H l n) (.string k) = true →
    ∃ i, ∃ hi : i < l.length, (∀ z, (mapD H l n).atKey (.string k) z = .lit (.int .i64 (i : Int))) ∧ findK keyR (l.take n).reverse k = some l[i] ∧ keyR l[i] = k
  | 0, _, h => by cases h
  | n + 1, h, hh => by
    have hlt : n < l.length := h
    rw [mapD_succ n hlt] at hh ⊢
    rw [List.take_succ_eq_append_getElem hlt, List.reverse_append]
    by_cases e : k = l[n].1.data.toList
    · refine ⟨n, hlt, fun z => ?_, ?_, (keyR_data _).trans e.symm⟩
      · rw [← e, atKey_put_same (mapD_isMap n) (show WideAt.IsKeyLit (.string _) from trivial)]
      · unfold findK
        simp [keyR_data, e]
    · rw [has_put_other (fun h => e (by simpa using h))] at hh
      obtain ⟨i, hi, h1, h2, h3⟩ := mapD_at k n (by omega) hh
      refine ⟨i, hi, fun z => ?_, ?_, h3⟩
      · rw [atKey_put_other (fun h => e (by simpa using h))]
        exact h1 z
      · unfold findK at h2 ⊢
        rw [List.reverse_singleton, List.singleton_append, List.find?_cons]
        have : ¬ keyR l[n] = k := by rw [keyR_data]; exact fun h => e h.symm
        simp [this, h2]
end

/-- The order of bytes, as the library sorts. -/
theorem less_of_le : ∀ x y : List UInt8, x ≤ y → x ≠ y → Go.Op.bytesLess x y = true := by
  intro x y h hne
  rcases less_tri x y with g | g | g
  · exact g
  · exact absurd g hne
  · exfalso
    have hlt : ∀ x y : List UInt8, Go.Op.bytesLess x y = true → x < y := by
      intro x
      induction x with
      | nil =>
        intro y h
        cases y with
        | nil => cases h
        | cons b y => exact List.nil_lt_cons ..
      | cons a x ih =>
        intro y h
        cases y with
        | nil => cases h
        | cons b y =>
          simp only [Go.Op.bytesLess, Bool.or_eq_true, decide_eq_true_eq, Bool.and_eq_true, beq_iff_eq] at h
          rw [List.cons_lt_cons_iff]
          rcases h with h | ⟨rfl, h⟩
          · exact .inl h
          · exact .inr ⟨rfl, ih y h⟩
    exact absurd (hlt y x g) (List.not_lt.2 h)

/-- Of each key of a sorted row of all keys the record that stood last. -/
def pickR (l : List RecT) (k : List UInt8) : RecT := (findK keyR l.reverse k).getD default

theorem newest_of_keys (l : List RecT) (ss : List (List UInt8)) (hs : ss.Nodup) (hm : ∀ k, k ∈ ss ↔ ∃ x ∈ l, x.1.data.toList = k) :
    (ss.mergeSort (fun x y => decide (x ≤ y))).map (pickR l) = newestR l := by
  have hp : ∀ k, k ∈ ss.mergeSort (fun x y => decide (x ≤ y)) ↔ ∃ x ∈ l, x.1.data.toList = k := fun k => ((List.mergeSort_perm ss _).mem_iff).trans (hm k)
  have hnd : (ss.mergeSort (fun x y => decide (x ≤ y))).Nodup := (List.mergeSort_perm ss _).nodup_iff.2 hs
  have hpw := List.pairwise_mergeSort (le := fun x y : List UInt8 => decide (x ≤ y)) (fun a b c h1 h2 => by simp only [decide_eq_true_eq] at *; exact List.le_trans h1 h2) (fun a b => by simp only [Bool.or_eq_true, decide_eq_true_eq]; exact List.le_total a b) ss
  generalize ss.mergeSort (fun x y => decide (x ≤ y)) = ks at *
  have hk : ∀ k ∈ ks, ∃ x, findK keyR l.reverse k = some x ∧ keyR x = k := by
    intro k h
    obtain ⟨x, hx, hxk⟩ := (hp k).1 h
    have hsome : (findK keyR l.reverse k).isSome = true := List.find?_isSome.2 ⟨x, by simpa using hx, by simp [keyR_data, hxk]⟩
    obtain ⟨y, hy⟩ := Option.isSome_iff_exists.1 hsome
    have hy2 := List.find?_some hy
    exact ⟨y, hy, by simpa using hy2⟩
  have hpick : ∀ k ∈ ks, findK keyR l.reverse k = some (pickR l k) ∧ keyR (pickR l k) = k := by
    intro k h
    obtain ⟨x, h1, h2⟩ := hk k h
    unfold pickR
    rw [h1]
    exact ⟨rfl, h2⟩
  refine newestK_of ordR l _ ?_ fun k => ?_
  · unfold Rising
    rw [List.pairwise_map]
    refine (hpw.and hnd).imp_of_mem ?_
    intro a b ha hb h
    rw [(hpick a ha).2, (hpick b hb).2]
    exact less_of_le a b (by simpa using h.1) h.2
  · by_cases hin : k ∈ ks
    · rw [(hpick k hin).1]
      unfold findK
      have : ∀ ks : List (List UInt8), k ∈ ks → (∀ k' ∈ ks, keyR (pickR l k') = k') → List.find? (fun x => decide (keyR x = k)) (ks.map (pickR l)) = some (pickR l k) := by
        intro ks
        induction ks with
        | nil => intro h _; cases h
        | cons a t ih =>
          intro h hh
          rw [List.map_cons, List.find?_cons, hh a (List.mem_cons_self ..)]
          by_cases ha : a = k
          · subst ha; simp
          · simp only [ha, decide_false]
            exact ih (by rcases List.mem_cons.1 h with h | h; exact absurd h.symm ha; exact h) fun k' hk' => hh k' (List.mem_cons_of_mem _ hk')
      exact this ks hin fun k' hk' => (hpick k' hk').2
    · have h1 : findK keyR l.reverse k = none := by
        unfold findK
        rw [List.find?_eq_none]
        intro x hx
        simp only [decide_eq_true_eq]
        intro e
        exact hin ((hp k).2 ⟨x, by simpa using hx, by rw [← keyR_data]; exact e⟩)
      rw [h1]
      unfold findK
      rw [List.find?_eq_none]
      intro x hx
      obtain ⟨k', hk', rfl⟩ := List.mem_map.1 hx
      simp only [decide_eq_true_eq]
      rw [(hpick k' hk').2]
      rintro rfl
      exact hin hk'

section
variable {H : Type} {P : Program} {k : TypeId} {R : Value → Option (DataW H × List MemPlace)} {w : World} {b n : Nat} {l : List RecT}
/-- The keys that stand in the map. -/
theorem strKeys_mapD (hown : w.ownsMap P k R b n (mapD H l l.length)) (K : Keyed P k) (hk : P.underlying k = some .string) :
    (strKeys (mapD H l l.length)).Nodup ∧ ∀ x, x ∈ strKeys (mapD H l l.length) ↔ ∃ y ∈ l, y.1.data.toList = x := by
  obtain ⟨es, hD, hpw, -⟩ := hown.entries K
  obtain ⟨es', hD', hko⟩ := hown.keysOf
  obtain rfl : es = es' := by rw [hD] at hD'; simpa using hD'
  have hstr : ∀ p ∈ es, ∃ x, p.1 = .string x := fun p hp => by
    obtain ⟨v, hv⟩ := hko p hp
    obtain ⟨x, -, hx, -⟩ := Maps.keyOf_str hk hv
    exact ⟨x, hx⟩
  have hh := fun x => mapD_has (H := H) (l := l) x l.length (Nat.le_refl _)
  rw [List.take_of_length_le (Nat.le_refl _)] at hh
  rw [hD] at hh ⊢
  refine ⟨?_, fun x => (Iff.trans ?_ (hh x))⟩
  · show (es.map fun p => strOf p.1).Nodup
    refine List.pairwise_map.2 (hpw.imp_of_mem fun {p q} hp' hq' hne e => hne ?_)
    obtain ⟨a, ha⟩ := hstr p hp'
    obtain ⟨c, hc⟩ := hstr q hq'
    rw [ha, hc] at e ⊢
    exact congrArg _ e
  · rw [has_eq, List.any_eq_true]
    show x ∈ (es.map fun p => strOf p.1) ↔ _
    rw [List.mem_map]
    constructor
    · rintro ⟨p, hp', rfl⟩
      obtain ⟨a, ha⟩ := hstr p hp'
      exact ⟨p, hp', by rw [ha]; simp [Lit.sameKey, strOf]⟩
    · rintro ⟨p, hp', hs⟩
      obtain ⟨a, ha⟩ := hstr p hp'
      rw [ha] at hs
      exact ⟨p, hp', by rw [ha]; simpa [Lit.sameKey, strOf] using hs⟩
end

end Go.Proofs.Ytafpbhkddodjoaa
