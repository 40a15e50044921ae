/-
  Mathematics of a log (of no code): records of different keys in the order in which they came, their entries, the same ones by rising keys.
  slices.SortStableFunc at records, by their keys: at most 39 of them.
  A region whose order is open, whose operations read and make memory but change none that stands: one condition for each slot that it writes, kept whatever comes up between; each operation is shown once, not once for each order.
  A region whose order is open at its beginning alone: the first n operations come in some order and change nothing that stands (see XDraw); behind them the others come one by one: what is left is their list.
  Records: contract of the laws' Cut.
  The record that is all zero; a record, if there is one.
  Slices of structs of whatever kind: how one lies in cells is a parameter. What one reads as, what the call itself makes; appended to, cut, stored into.
  Stage 18 (and 19): the reference's tables of records: eight buckets of four slots, six cells each (does one lie there? the record's five).
  Stage 19: the program's tables: eight buckets of four slots, six cells each.
-/
import Derived.Test.YthbnecdeebmlhaaGreatM04
import Derived.Test.YthbnecdeebmlhaaGreatM01
import Derived.Orders
import Derived.Test.YthbnecdeebmlhaaGreatM02
import Derived.Deep.MidRow
import Derived.Deep.DeepCutAuto
import Derived.Test.YthbnecdeebmlhaaGreatM03
import Derived.ArgAppend
import Derived.Deep.Upon
namespace Go.Proofs.YthbnecdeebmlhaaGreat

def hR (x : RecT) : Nat := hashS x.1
/-! ### What is found of a key. -/
def KeysOk (L : List RecT) : Prop := (L.map keyR).Nodup
theorem keyR_eq {x : RecT} {k : ByteArray} : keyR x = k.toList ↔ x.1 = k := by
  unfold keyR
  rw [ByteArray.toList_eq, ByteArray.toList_eq]
  exact ⟨fun h => ByteArray.ext (Array.toList_inj.1 h), fun h => by rw [h]⟩
theorem find_iff {L : List RecT} (h : KeysOk L) (k : List UInt8) (x : RecT) : findK keyR L k = some x ↔ x ∈ L ∧ keyR x = k := by
  induction L with
  | nil => simp [findK]
  | cons y t ih =>
    have hn := List.nodup_cons.1 (by simpa [KeysOk] using h : (keyR y :: t.map keyR).Nodup)
    have ih := ih hn.2
    unfold findK at ih ⊢
    rw [List.find?_cons]
    by_cases hy : keyR y = k
    · simp only [hy, decide_true, Option.some.injEq, List.mem_cons]
      constructor
      · rintro rfl; exact ⟨.inl rfl, hy⟩
      · rintro ⟨rfl | hx, hk⟩
        · rfl
        · exact absurd (List.mem_map.2 ⟨x, hx, hk.trans hy.symm⟩) hn.1
    · simp only [hy, decide_false, ih, List.mem_cons]
      constructor
      · rintro ⟨h1, h2⟩; exact ⟨.inr h1, h2⟩
      · rintro ⟨rfl | h1, h2⟩
        · exact absurd h2 hy
        · exact ⟨h1, h2⟩
theorem find_none {L : List RecT} (k : List UInt8) : findK keyR L k = none ↔ ∀ x ∈ L, keyR x ≠ k := by
  unfold findK
  rw [List.find?_eq_none]
  simp
theorem opt_ext {α : Type} {a b : Option α} (h : ∀ x, a = some x ↔ b = some x) : a = b := by
  cases a with
  | none => cases b with
    | none => rfl
    | some y => exact ((h y).2 rfl)
  | some x => exact ((h x).1 rfl).symm
theorem find_congr {L M : List RecT} (hL : KeysOk L) (hM : KeysOk M) (h : ∀ x, x ∈ L ↔ x ∈ M) (k : List UInt8) : findK keyR L k = findK keyR M k :=
  opt_ext fun x => by rw [find_iff hL, find_iff hM, h]
theorem KeysOk.rev {L : List RecT} (h : KeysOk L) : KeysOk L.reverse := by
  unfold KeysOk at *
  rw [List.map_reverse]
  exact List.pairwise_reverse.2 (h.imp fun hn e => hn e.symm)
theorem KeysOk.perm {L M : List RecT} (h : KeysOk L) (g : L.Perm M) : KeysOk M := (g.map keyR).nodup_iff.1 h
theorem KeysOk.nodup {L : List RecT} (h : KeysOk L) : L.Nodup := (List.pairwise_map.1 h).imp fun hn e => hn (by rw [e])
theorem rising_keys {L : List RecT} (h : Rising keyR Go.Op.bytesLess L) : KeysOk L := by
  unfold KeysOk
  exact List.pairwise_map.2 (h.imp fun hl e => by rw [e, ordR.irr] at hl; cases hl)
theorem newest_rising (L : List RecT) : Rising keyR Go.Op.bytesLess (newestR L) := newestK_rising ordR L
theorem newest_keys (L : List RecT) : KeysOk (newestR L) := rising_keys (newest_rising L)
theorem newest_find {L : List RecT} (h : KeysOk L) (k : List UInt8) : findK keyR (newestR L) k = findK keyR L k := by
  rw [newestK_find ordR]
  exact find_congr h.rev h (fun x => by simp) k
theorem newest_mem {L : List RecT} (h : KeysOk L) (x : RecT) : x ∈ newestR L ↔ x ∈ L := by
  have h1 := find_iff (newest_keys L) (keyR x) x
  have h2 := find_iff h (keyR x) x
  rw [newest_find h, h2] at h1
  simpa using h1.symm
theorem newest_perm {L : List RecT} (h : KeysOk L) : (newestR L).Perm L := (List.perm_ext_iff_of_nodup (newest_keys L).nodup h.nodup).2 (newest_mem h)
theorem newest_len {L : List RecT} (h : KeysOk L) : (newestR L).length = L.length := (newest_perm h).length_eq

/-! ### One record more, or in place of another one. -/
theorem KeysOk.snoc {L : List RecT} (hL : KeysOk L) {x : RecT} (hx : ∀ y ∈ L, keyR y ≠ keyR x) : KeysOk (L ++ [x]) := by
  unfold KeysOk at *
  rw [List.map_append]
  refine List.nodup_append.2 ⟨hL, by simp, ?_⟩
  intro a ha b hb
  obtain ⟨y, hy, rfl⟩ := List.mem_map.1 ha
  simp only [List.map_cons, List.map_nil, List.mem_singleton] at hb
  subst hb
  exact hx y hy
theorem newest_snoc (L : List RecT) (x : RecT) : newestR (L ++ [x]) = setR (newestR L) x := by
  unfold newestR newestK
  rw [List.foldl_append]
  rfl
/-! ### Room, reads. -/
def readsR (L : List RecT) (k : ByteArray) : Nat := L.countP fun x => nearN (hashS k) (hR x)
theorem readsR_newest {L : List RecT} (h : KeysOk L) (k : ByteArray) : readsR (newestR L) k = readsR L k := (newest_perm h).countP_eq _
theorem near_self (a : Nat) : nearN a a = true := (near_iff a a).2 rfl
end Go.Proofs.YthbnecdeebmlhaaGreat

namespace Go.Proofs.YthbnecdeebmlhaaGreat
open Go.RowKit Go.Shelf Go.Sort

def insRecL_ren : Go.Shelf.Ren := ⟨fun | 20 => 136 | n => n, fun | 24 => 28 | 22 => 22 | 3 => 3 | 25 => 137 | 4 => 4 | 0 => 0 | n => n, fun | n => n⟩
theorem insRecL : Go.Proofs.SlLaysF0.n20 Tryz.prog insRecL_ren := {
  mixed := by kernel_rfl
  f20 := ⟨Tryz.f136.name, by decide, Tryz.func136.trans (congrArg some (by kernel_rfl))⟩
  t0 := Tryz.underlying0
  a0 := Tryz.isAgg0
  z0 := Tryz.sizeOf0
  v0 := Tryz.zeroValue0
  t3 := Tryz.underlying3
  a3 := Tryz.isAgg3
  z3 := Tryz.sizeOf3
  v3 := Tryz.zeroValue3
  t4 := Tryz.underlying4
  a4 := Tryz.isAgg4
  z4 := Tryz.sizeOf4
  v4 := Tryz.zeroValue4
  t22 := Tryz.underlying22
  a22 := Tryz.isAgg22
  z22 := Tryz.sizeOf22
  v22 := Tryz.zeroValue22
  t25 := Tryz.underlying137
  a25 := Tryz.isAgg137
  z25 := Tryz.sizeOf137
  v25 := Tryz.zeroValue137 }
theorem ltR_cf : ltOf cmpK = ltR := rfl
theorem cmpKey (blk off size : Nat) (w : World) : CmpLays Tryz.prog 91 #[] rc5 5 cmpK blk off size w := fun _ _ _ _ x y => listfn_c x y _

theorem insrec_c {w0 : World} {B g c : Nat} {d : Array RecT} (a b : Nat) (W : World) (hab : a ≤ b) (hb : b ≤ d.size) (hsz : d.size ≤ 1000) (R : RW w0 B g c d W) :
    Calls Tryz.prog 136 #[.slice (some ⟨g, 0, none⟩) d.size c, .int .i64 (a : Int), .int .i64 (b : Int), .func (.func 91) #[] #[]] W fun e w' => e = .returned (.tuple #[]) ∧ ∃ d', PermIn a b d d' ∧ SortedIn ltR a b d' ∧ RW w0 B g c d' w' := by
  have eg : ∀ args w, (callFunc 91 args).run Tryz.prog w = .ok (.enter 91 args) w := enters_of Tryz.func91 (by kernel_rfl) rfl
  have hrow : W.ownsRow B 28 5 (.slice (some ⟨g, 0, none⟩) d.size c) d.size (d.toList.flatMap rc5) := by
    have := R.own
    unfold OwnRec flat5 at this
    rwa [Array.length_toList] at this
  have hg : g < W.heap.size := by
    obtain ⟨cur, -, h2, -⟩ := row_open hrow
    exact (Array.getElem?_eq_some_iff.1 h2).1
  have h := AnyQ.insertionSortCmpFunc insRecL 5 Tryz.isAgg28 Tryz.sizeOf28 rc5 rc5_len rc5_one cmpK 91 #[] g 0 c a b d W eg (cmpKey g 0 _ W) (holdsK_row rc5_len (by omega) hrow) hg hab hb (by omega)
  change Calls Tryz.prog 136 _ _ _ at h
  rw [ltR_cf] at h
  refine h.mono ?_
  rintro e w' ⟨rfl, m, os, rfl⟩
  have hi := insertionSort_holds (lt := ltR) swoK d a b hab hb
  generalize insertionSort ltR d a b = d' at *
  have hro := row_sortedK (d := d) (d' := d') rc5_len (by omega) hrow hi.1.1 m os
  refine ⟨rfl, d', hi.1, hi.2, ?_, R.gr.trans (grown_sortedK m os)⟩
  unfold OwnRec flat5
  rw [Array.length_toList, hi.1.1]
  exact hro

set_option maxHeartbeats 4000000 in
set_option maxRecDepth 100000 in
/-- Records, sorted by their keys (at most 39): the same ones, rising. -/
theorem stable_c (w : World) (B g c : Nat) (d : Array RecT) (h39 : d.size ≤ 39) (R : RW w B g c d w) :
    Calls Tryz.prog 119 #[.slice (some ⟨g, 0, none⟩) d.size c, .int .i64 (d.size : Int), .func (.func 91) #[] #[]] w fun e w' => e = .returned (.tuple #[]) ∧ ∃ d', PermIn 0 d.size d d' ∧ SortedIn ltR 0 d.size d' ∧ RW w B g c d' w' := by
  obtain ⟨n, hn⟩ : ∃ n, n = d.size := ⟨_, rfl⟩
  have HN := Go.Lib.hid hn
  have HR := Go.Lib.hid R
  have CI := Go.Lib.hid fun (d1 : Array RecT) (h1 : d1.size = d.size) a b W hab hb R => insrec_c (w0 := w) (B := B) (g := g) (c := c) (d := d1) a b W hab hb (by omega) R
  have CS := Go.Lib.hid fun (d1 : Array RecT) (h1 : n = d1.size) m W h2 h3 S1 S2 R => symmerge_c (w0 := w) (B := B) (g := g) (c := c) n (by omega) n 0 m n d1 W (by omega) h2 h3 (Nat.le_refl _) h1 S1 S2 R
  rw [← hn]
  have hI39 : (n : Int) ≤ 39 := by omega
  clear R h39
  go_enter Tryz.func119, Tryz.ntmps119
  go_wp2_with fail
  by_cases h20 : n < 20
  · have hlI : (n : Int) < 20 := by omega
    have C := CI.out d rfl 0 n w (by omega) (by omega) HR.out
    rw [← hn] at C
    have C := Go.Lib.hid C
    clear CI CS hn
    go_loopw [7, 8] (fun a b wr => a = .int .i64 0 ∧ b = .int .i64 20 ∧ Hid (wr = w)) (fun _ _ _ => 0)
    case atStart => exact ⟨rfl, rfl, rfl⟩
    case round =>
      obtain ⟨rfl, rfl, he⟩ := hrel
      have he := he.out
      subst he
      go_wp2_with fail
      refine C.out.mono ?_
      rintro e w1 ⟨rfl, hf⟩
      have HF := Go.Lib.hid hf
      clear hf C
      go_wp2_with fail
      go_loopw [6] (fun a wr => a = .int .i64 20 ∧ Hid (wr = w1)) (fun _ _ => 0)
      case atStart => exact ⟨rfl, rfl⟩
      case round =>
        obtain ⟨rfl, he⟩ := hrel
        have he := he.out
        subst he
        go_wp2_with fail
        go_end0
        exact ⟨rfl, HF.out⟩
  · have hI20 : (20 : Int) ≤ (n : Int) := by omega
    have HN20 := Go.Lib.hid (show 20 ≤ n by omega)
    clear h20
    have C1 := CI.out d rfl 0 20 w (by omega) (by have := HN20.out; omega) HR.out
    rw [← hn] at C1
    have C1 := Go.Lib.hid C1
    clear hn
    go_loopw [7, 8] (fun a b wr => (a = .int .i64 0 ∧ b = .int .i64 20 ∧ Hid (wr = w)) ∨ (a = .int .i64 20 ∧ b = .int .i64 40 ∧ Hid (∃ d1, PermIn 0 20 d d1 ∧ SortedIn ltR 0 20 d1 ∧ RW w B g c d1 wr))) (fun _ b _ => 40 - (intOf b).toNat)
    case atStart => exact .inl ⟨rfl, rfl, rfl⟩
    case round =>
      rcases hrel with ⟨rfl, rfl, he⟩ | ⟨rfl, rfl, hs⟩
      · have he := he.out
        subst he
        go_wp2_with fail
        refine C1.out.mono ?_
        rintro e w1 ⟨rfl, hs1⟩
        have HS1 := Go.Lib.hid hs1
        clear hs1
        go_wp2_with fail
        go_roundw
        case rel => exact .inr ⟨rfl, rfl, HS1⟩
        case measure => simp [intOf]
      · have h40 : ¬ (40 : Int) ≤ (n : Int) := by omega
        obtain ⟨d1, hp1, hs1, S1⟩ := hs.out
        have C2 := CI.out d1 hp1.1 20 n wr HN20.out (by have := HN.out; have := hp1.1; omega) S1
        rw [show d1.size = n by have := HN.out; have := hp1.1; omega] at C2
        have C2 := Go.Lib.hid C2
        have HP1 := Go.Lib.hid (And.intro hp1 hs1)
        clear hs hp1 hs1 S1
        go_wp2_with fail
        refine C2.out.mono ?_
        rintro e w1 ⟨rfl, d2, hp2, hs2, S2⟩
        have HS2 := Go.Lib.hid S2
        have HF := Go.Lib.hid (show PermIn 0 n d d2 ∧ SortedIn ltR 0 20 d2 ∧ SortedIn ltR 20 n d2 from by
          have e0 := HN.out
          have e1 := HP1.out.1.1
          exact ⟨permIn_trans _ _ _ _ _ (permIn_mono _ _ _ _ _ _ (Nat.le_refl _) HN20.out (by omega) HP1.out.1) (permIn_mono _ _ _ _ _ _ (Nat.zero_le _) (Nat.le_refl _) (by omega) hp2), sorted_congr HP1.out.2 (fun x _ hx => hp2.2.1 x (.inl hx)), hs2⟩)
        clear hp2 hs2 S2 C2
        go_wp2_with fail
        go_loopw [6] (fun a wr => (a = .int .i64 20 ∧ Hid (wr = w1)) ∨ (a = .int .i64 40 ∧ Hid (∃ d', PermIn 0 n d d' ∧ SortedIn ltR 0 n d' ∧ RW w B g c d' wr))) (fun a _ => 40 - (intOf a).toNat)
        case atStart => exact .inl ⟨rfl, rfl⟩
        case round =>
          rcases hrel with ⟨rfl, he⟩ | ⟨rfl, hs⟩
          · have he := he.out
            subst he
            by_cases hlt : 20 < n
            · have hltI : (20 : Int) < (n : Int) := by omega
              have C3 := Go.Lib.hid (CS.out d2 (by have := HF.out.1.1; have := HN.out; omega) 20 wr (by omega) hlt HF.out.2.1 HF.out.2.2 HS2.out)
              clear hlt
              go_wp2_with fail
              go_loopw [7, 8] (fun a b wr2 => a = .int .i64 0 ∧ b = .int .i64 40 ∧ Hid (wr2 = wr)) (fun _ _ _ => 0)
              case atStart => exact ⟨rfl, rfl, rfl⟩
              case round =>
                obtain ⟨rfl, rfl, he⟩ := hrel
                have he := he.out
                subst he
                go_wp2_with fail
                refine C3.out.mono ?_
                rintro e w3 ⟨rfl, d3, hp3, hs3, S3⟩
                have HS3 := Go.Lib.hid (show ∃ d', PermIn 0 n d d' ∧ SortedIn ltR 0 n d' ∧ RW w B g c d' w3 from ⟨d3, permIn_trans _ _ _ _ _ HF.out.1 hp3, hs3, S3⟩)
                clear hp3 hs3 S3 C3
                go_wp2_with fail
                go_roundw
                case rel => exact .inr ⟨rfl, HS3⟩
                case measure => simp [intOf]
            · have hltI : ¬ (20 : Int) < (n : Int) := by omega
              obtain rfl : n = 20 := by have := HN20.out; omega
              go_wp2_with fail
              go_end0
              exact ⟨rfl, d2, HF.out.1, HF.out.2.1, HS2.out⟩
          · have hltI : ¬ (40 : Int) < (n : Int) := by omega
            go_wp2_with fail
            go_end0
            exact ⟨rfl, hs.out⟩

theorem ownRec_form {w : World} {B : Nat} {v : Value} {l : List RecT} (h : OwnRec w B v l) : (l = [] ∧ ∃ p c, v = .slice p 0 c) ∨ ∃ g c, v = .slice (some ⟨g, 0, none⟩) l.length c ∧ g < w.heap.size := by
  rcases h.2 with ⟨rfl, h0⟩ | ⟨g, cap, cur, rfl, hB, h2, -⟩
  · exact .inl ⟨List.eq_nil_of_length_eq_zero h0, _, _, rfl⟩
  · exact .inr ⟨g, cap, rfl, (Array.getElem?_eq_some_iff.1 h2).1⟩

/-- No later one less than an earlier one. -/
def RiseL (l : List RecT) : Prop := l.Pairwise fun x y => Go.Op.bytesLess (keyR y) (keyR x) = false
theorem rise_of {d : Array RecT} (h : SortedIn ltR 0 d.size d) : RiseL d.toList := by
  unfold RiseL
  rw [List.pairwise_iff_getElem]
  intro i j hi hj hij
  rw [Array.length_toList] at hi hj
  have := h i j (Nat.zero_le _) hij hj
  rw [getElem!_pos d j hj, getElem!_pos d i hi, ltK] at this
  exact this
/-- What rises and has each key once is the reference's list. -/
theorem rise_newest {l m : List RecT} (h : RiseL l) (hp : l.Perm m) (hk : KeysOk m) : l = newestR m := by
  have hkl : KeysOk l := hk.perm hp.symm
  have hr : Rising keyR Go.Op.bytesLess l := by
    have h2 := List.pairwise_map.1 hkl
    unfold RiseL at h
    refine List.pairwise_iff_getElem.2 fun i j hi hj hij => ?_
    have h3 := List.pairwise_iff_getElem.1 h i j hi hj hij
    have h4 := List.pairwise_iff_getElem.1 h2 i j hi hj hij
    rcases less_tri (keyR l[i]) (keyR l[j]) with h5 | h5 | h5
    · exact h5
    · exact absurd h5 h4
    · rw [h5] at h3; cases h3
  refine rising_ext ordR _ _ hr (newest_rising m) fun k => ?_
  rw [newest_find hk]
  exact find_congr hkl hk (fun x => hp.mem_iff) k

set_option maxRecDepth 100000 in
theorem sortrecs_c (w : World) (B : Nat) (v : Value) (l : List RecT) (hown : OwnRec w B v l) (hl : l.length ≤ 39) :
    Calls Tryz.prog 90 #[v, .func (.func 91) #[] #[]] w fun e w' => e = .returned (.tuple #[]) ∧ ∃ l', l'.Perm l ∧ RiseL l' ∧ OwnRec w' B v l' ∧ w.grownBy w' v.ownBlock := by
  have C : ∃ p c, v = .slice p l.length c ∧ Calls Tryz.prog 119 #[.slice p l.length c, .int .i64 (l.length : Int), .func (.func 91) #[] #[]] w fun e w' => e = .returned (.tuple #[]) ∧ ∃ l', l'.Perm l ∧ RiseL l' ∧ OwnRec w' B v l' ∧ w.grownBy w' v.ownBlock := by
    rcases ownRec_form hown with ⟨rfl, p, c, rfl⟩ | ⟨g, c, rfl, -⟩
    · refine ⟨p, c, rfl, ?_⟩
      have HO := Go.Lib.hid hown
      clear hown
      have CI : ∀ W, Calls Tryz.prog 136 #[.slice p 0 c, .int .i64 0, .int .i64 0, .func (.func 91) #[] #[]] W fun e w' => e = .returned (.tuple #[]) ∧ w' = W := by
        intro W
        go_enter Tryz.func136, Tryz.ntmps136
        go_wp2_with fail
        go_loopw [8] (fun a wr => a = .int .i64 1 ∧ Hid (wr = W)) (fun _ _ => 0)
        case atStart => exact ⟨rfl, rfl⟩
        case round =>
          obtain ⟨rfl, he⟩ := hrel
          have he := he.out
          subst he
          go_wp2_with fail
          go_end0
          exact ⟨rfl, rfl⟩
      have CI := Go.Lib.hid CI
      show Calls _ _ #[_, .int .i64 0, _] _ _
      go_enter Tryz.func119, Tryz.ntmps119
      go_wp2_with fail
      go_loopw [7, 8] (fun a b wr => a = .int .i64 0 ∧ b = .int .i64 20 ∧ Hid (wr = w)) (fun _ _ _ => 0)
      case atStart => exact ⟨rfl, rfl, rfl⟩
      case round =>
        obtain ⟨rfl, rfl, he⟩ := hrel
        have he := he.out
        subst he
        go_wp2_with fail
        refine (CI.out _).mono ?_
        rintro e w1 ⟨rfl, rfl⟩
        go_wp2_with fail
        go_loopw [6] (fun a wr => a = .int .i64 20 ∧ Hid (wr = w1)) (fun _ _ => 0)
        case atStart => exact ⟨rfl, rfl⟩
        case round =>
          obtain ⟨rfl, he⟩ := hrel
          have he := he.out
          subst he
          go_wp2_with fail
          go_end0
          exact ⟨rfl, List.Pairwise.nil, HO.out, World.grownBy.refl _ _⟩
    · refine ⟨_, c, rfl, ?_⟩
      have hR : RW w B g c l.toArray w := ⟨by simpa using hown, World.grownBy.refl _ _⟩
      have h := stable_c w B g c l.toArray (by simpa using hl) hR
      rw [show l.toArray.size = l.length by simp] at h
      refine h.mono ?_
      rintro e w' ⟨rfl, d', hp, hs, hr⟩
      have hsz : d'.size = l.length := by have := hp.1; simpa using this
      refine ⟨rfl, d'.toList, by have := permIn_list (d := l.toArray) (d' := d') (by simpa using hp); simpa using this, rise_of (by rw [hsz]; exact hs), ?_, hr.gr⟩
      have := hr.own
      rwa [hsz] at this
  obtain ⟨p, c, rfl, C⟩ := C
  have C := Go.Lib.hid C
  clear hown
  go_enter Tryz.func90, Tryz.ntmps90
  go_wp2_with fail
  refine C.out.mono ?_
  rintro e w1 ⟨rfl, hf⟩
  have HF := Go.Lib.hid hf
  clear hf
  go_wp2_with fail
  go_end0
  exact ⟨rfl, HF.out⟩
end Go.Proofs.YthbnecdeebmlhaaGreat

namespace Go.Proofs.YthbnecdeebmlhaaGreat
open Go.RowKit

/-- Has slot t been written ahead of operation o, by one that o waits for? -/
def fedB (ops : Array Oper) (o : Oper) (t : Nat) : Bool :=
  o.after.any fun e => Region.binds .any e && (match ops[e.on]? with | some p => p.dst == some t | none => false)
/-- Does whoever writes t wait for operation i? -/
def lateB (ops : Array Oper) (i t : Nat) : Bool :=
  (List.range ops.size).all fun j => match ops[j]? with
    | some p => p.dst != some t || (p.after.any fun e => Region.binds .any e && e.on == i)
    | none => true
/-- Each slot that an operation looks at is written ahead of it, or behind it. -/
def tidyB (ops : Array Oper) : Bool :=
  (List.range ops.size).all fun i => match ops[i]? with
    | some o => (o.looksAt ops).all fun t => fedB ops o t || lateB ops i t
    | none => true

/-- Each operation waits for earlier ones alone. -/
def lowB (ops : Array Oper) : Bool :=
  (List.range ops.size).all fun i => match ops[i]? with
    | some o => o.after.all fun e => !Region.binds .any e || decide (e.on < i)
    | none => true

theorem countP_lt {p q : Nat → Bool} {i : Nat} : ∀ {l : List Nat}, (∀ j ∈ l, q j = true → p j = true) → i ∈ l → p i = true → q i = false → l.countP q < l.countP p
  | [], _, hi, _, _ => by cases hi
  | x :: l, hpq, hi, hp, hq => by
    have hle : l.countP q ≤ l.countP p := List.countP_mono_left fun j hj => hpq j (List.mem_cons_of_mem _ hj)
    rcases List.mem_cons.1 hi with rfl | hi'
    · rw [List.countP_cons_of_pos hp, List.countP_cons_of_neg (by simp [hq])]
      omega
    · have ih := countP_lt (fun j hj => hpq j (List.mem_cons_of_mem _ hj)) hi' hp hq
      rw [List.countP_cons, List.countP_cons]
      have hx := hpq x (by simp)
      cases hqx : q x with
      | false => simp only [Bool.false_eq_true, if_false]; omega
      | true => simp only [hx hqx, if_true]; omega

theorem listed_all {ops : Array Oper} (hlow : lowB ops = true) {listed : Array Bool} (hs : listed.size = ops.size) (hr : Region.ready .any ops listed = []) :
    ∀ (i : Nat) (o : Oper), ops[i]? = some o → listed.getD i false = true := by
  intro i
  induction i using Nat.strongRecOn with
  | ind i ih =>
    intro o ho
    have hi : i < ops.size := (Array.getElem?_eq_some_iff.1 ho).1
    have hil : i < listed.size := by rw [hs]; exact hi
    cases hl : listed.getD i false with
    | true => rfl
    | false =>
      have hmem : i ∈ Region.ready .any ops listed := by
        rw [mem_ready]
        refine ⟨by simp [hil] at hl ⊢; exact hl, o, ho, fun e he hb => ?_⟩
        unfold lowB at hlow
        rw [List.all_eq_true] at hlow
        have h1 := hlow i (by rw [List.mem_range]; exact hi)
        rw [ho] at h1
        simp only [Array.all_eq_true] at h1
        obtain ⟨k, hk, rfl⟩ := Array.mem_iff_getElem.1 he
        have h2 := h1 k hk
        rw [hb] at h2
        have hlt : (o.after[k]).on < i := by simpa using h2
        have hlt' : (o.after[k]).on < ops.size := by omega
        exact ih _ hlt ops[(o.after[k]).on] (by simp [hlt'])
      rw [hr] at hmem
      cases hmem

section
variable {P : Program} {ops : Array Oper} {Q : Exit → Act → World → Prop}

/-- What is kept while the region goes on. -/
structure Held (ops : Array Oper) (V : Nat → World → Value → Prop) (a0 : Act) (w0 : World) (listed : Array Bool) (a : Act) (w : World) : Prop where
  size : listed.size = ops.size
  below : Below w0.heap.size w0 w
  defers : a.defers = a0.defers
  len : a.tmps.size = a0.tmps.size
  old : ∀ t : Nat, (∀ (i : Nat) (o : Oper), ops[i]? = some o → o.dst = some t → listed.getD i false = false) → a.tmps[t]? = a0.tmps[t]?
  new : ∀ (i : Nat) (o : Oper) (t : Nat), ops[i]? = some o → o.dst = some t → listed.getD i false = true → ∃ v, a.tmps[t]? = some v ∧ V t w v
  shut : ∀ (i : Nat) (o : Oper), ops[i]? = some o → listed.getD i false = true → ∀ e ∈ o.after, Region.binds .any e = true → listed.getD e.on false = true

/-- What operation o may take as given: the slots that it looks at. -/
def Given (ops : Array Oper) (V : Nat → World → Value → Prop) (a0 : Act) (o : Oper) (a : Act) (w : World) : Prop :=
  ∀ t ∈ o.looksAt ops, (fedB ops o t = true → ∃ v, a.tmps[t]? = some v ∧ V t w v) ∧ (fedB ops o t = false → a.tmps[t]? = a0.tmps[t]?)

theorem getD_false_of {l : Array Bool} {i : Nat} (h : i < l.size) (h1 : l.getD i true = false) : l.getD i false = false := by
  simp [h] at h1 ⊢; exact h1

theorem wp_region_kept {id : Nat} {a0 : Act} {w0 : World} (hm : P.follows .mixedOrders = true) (V : Nat → World → Value → Prop)
    (hV : ∀ t w w' v, V t w v → Below w.heap.size w w' → V t w' v) (htidy : tidyB ops = true) (hdst : ∀ (i : Nat) (o : Oper), ops[i]? = some o → ∃ t : Nat, o.dst = some t ∧ t < a0.tmps.size)
    (hstep : ∀ (i : Nat) (o : Oper), ops[i]? = some o → ∀ (a : Act) (w : World), Below w0.heap.size w0 w → a.tmps.size = a0.tmps.size → Given ops V a0 o a w →
      wpOp P ops Q i (fun a' w' => ∃ v, a' = a.put o.dst v ∧ Below w.heap.size w w' ∧ ∀ t, o.dst = some t → V t w' v) a w)
    (hend : ∀ (a : Act) (w : World), Below w0.heap.size w0 w → a.defers = a0.defers → a.tmps.size = a0.tmps.size → (∀ t : Nat, (∀ (i : Nat) (o : Oper), ops[i]? = some o → o.dst ≠ some t) → a.tmps[t]? = a0.tmps[t]?) →
      (∀ (i : Nat) (o : Oper) (t : Nat), ops[i]? = some o → o.dst = some t → ∃ v, a.tmps[t]? = some v ∧ V t w v) → Q .normal a w)
    (hlow : lowB ops = true) :
    (Code.region id ops true).wp P Q a0 w0 := by
  refine wp_region_any hm ?_
  have hfin : ∀ (listed : Array Bool) (a : Act) (w : World), Held ops V a0 w0 listed a w → Region.ready .any ops listed = [] → Q .normal a w := fun listed a w h hr =>
    hend a w h.below h.defers h.len (fun t ht => h.old t fun i o hi hd => absurd hd (ht i o hi)) fun i o t hi hd => h.new i o t hi hd (listed_all hlow h.size hr i o hi)
  have key : ∀ (fuel : Nat) (listed : Array Bool) (a : Act) (w : World), Held ops V a0 w0 listed a w →
      (List.range ops.size).countP (fun j => !listed.getD j true) ≤ fuel → wpAny P .any ops Q fuel listed a w := by
    intro fuel
    induction fuel with
    | zero =>
      intro listed a w h hcount
      have hr : Region.ready .any ops listed = [] := by
        cases hrr : Region.ready .any ops listed with
        | nil => rfl
        | cons x xs =>
          have hx : x ∈ Region.ready .any ops listed := by rw [hrr]; simp
          obtain ⟨hun, o, ho, -⟩ := mem_ready.1 hx
          have : 0 < (List.range ops.size).countP (fun j => !listed.getD j true) := List.countP_pos_iff.2 ⟨x, by rw [List.mem_range]; exact (Array.getElem?_eq_some_iff.1 ho).1, by rw [hun]; rfl⟩
          omega
      exact ⟨hr, hfin _ _ _ h hr⟩
    | succ fuel ih =>
      intro listed a w h hcount
      refine ⟨fun hr => hfin _ _ _ h hr, fun i hi => ?_⟩
      obtain ⟨hun, o, ho, hall⟩ := mem_ready.1 hi
      have hil : i < listed.size := by
        rw [h.size]
        exact (Array.getElem?_eq_some_iff.1 ho).1
      have hunf := getD_false_of hil hun
      have hgiven : Given ops V a0 o a w := by
        intro t ht
        refine ⟨fun hf => ?_, fun hf => ?_⟩
        · unfold fedB at hf
          rw [Array.any_eq_true] at hf
          obtain ⟨k, hk, hke⟩ := hf
          simp only [Bool.and_eq_true] at hke
          obtain ⟨hb, hw⟩ := hke
          have hl := hall o.after[k] (Array.getElem_mem hk) hb
          cases hp : ops[(o.after[k]).on]? with
          | none => rw [hp] at hw; cases hw
          | some p =>
            rw [hp] at hw
            exact h.new _ p t hp (by simpa using hw) hl
        · refine h.old t fun j p hj hd => ?_
          have hti := htidy
          unfold tidyB at hti
          rw [List.all_eq_true] at hti
          have h1 := hti i (by rw [List.mem_range]; exact (Array.getElem?_eq_some_iff.1 ho).1)
          rw [ho] at h1
          simp only [List.all_eq_true] at h1
          have h2 := h1 t ht
          rw [hf, Bool.false_or] at h2
          unfold lateB at h2
          rw [List.all_eq_true] at h2
          have h3 := h2 j (by rw [List.mem_range]; exact (Array.getElem?_eq_some_iff.1 hj).1)
          rw [hj] at h3
          simp only [hd, bne_self_eq_false, Bool.false_or, Array.any_eq_true, Bool.and_eq_true] at h3
          obtain ⟨k, hk, hb, hon⟩ := h3
          cases hlj : listed.getD j false with
          | false => rfl
          | true =>
            have := h.shut j p hj hlj p.after[k] (Array.getElem_mem hk) hb
            rw [show (p.after[k]).on = i from by simpa using hon, hunf] at this
            cases this
      refine wpOp_mono ?_ (hstep i o ho a w h.below h.len hgiven)
      rintro a' w' ⟨v, rfl, hb, hv⟩
      obtain ⟨d, hd, hdl⟩ := hdst i o ho
      have hset : ∀ j, (listed.setIfInBounds i true).getD j false = if j = i then true else listed.getD j false := by
        intro j
        by_cases hji : j = i
        · subst hji; simp [hil]
        · simp [hji, Array.getElem?_setIfInBounds_ne (Ne.symm hji), Array.getD_eq_getD_getElem?]
      refine ih _ _ _ ⟨by simpa using h.size, h.below.trans (hb.mono h.below.size), ?_, ?_, ?_, ?_, ?_⟩ ?_
      · rw [hd]; exact h.defers
      · rw [hd]; simp [Act.put, h.len]
      · intro t ht
        have hdt : d ≠ t := by
          intro e
          subst e
          have := ht i o ho hd
          rw [hset, if_pos rfl] at this
          cases this
        rw [hd]
        simp only [Act.put]
        rw [Array.getElem?_setIfInBounds_ne hdt]
        refine h.old t fun j p hj hdj => ?_
        have := ht j p hj hdj
        rw [hset] at this
        split at this
        · cases this
        · exact this
      · intro j p t hj hdj hlj
        rw [hd]
        simp only [Act.put]
        by_cases hdt : d = t
        · subst hdt
          have : d < a.tmps.size := by rw [h.len]; exact hdl
          exact ⟨v, by simp [this], hv d hd⟩
        · rw [Array.getElem?_setIfInBounds_ne hdt]
          rw [hset] at hlj
          split at hlj
          · rename_i hji
            subst hji
            rw [ho] at hj
            cases hj
            rw [hd] at hdj
            exact absurd (Option.some.inj hdj) hdt
          · obtain ⟨u, hu, hVu⟩ := h.new j p t hj hdj hlj
            exact ⟨u, hu, hV _ _ _ _ hVu hb⟩
      · intro j p hj hlj e he hbe
        rw [hset] at hlj ⊢
        split
        · rfl
        · split at hlj
          · rename_i hji
            subst hji
            rw [ho] at hj
            cases hj
            exact hall e he hbe
          · exact h.shut j p hj hlj e he hbe
      · have : (List.range ops.size).countP (fun j => !(listed.setIfInBounds i true).getD j true) < (List.range ops.size).countP (fun j => !listed.getD j true) := by
          refine countP_lt (i := i) (fun j hj hq => ?_) (by rw [List.mem_range, ← h.size]; exact hil) (by rw [hun]; rfl) (by simp [hil])
          by_cases hji : j = i
          · subst hji; rw [hun]; rfl
          · simp only [Array.getD_eq_getD_getElem?] at hq ⊢
            rwa [Array.getElem?_setIfInBounds_ne (Ne.symm hji)] at hq
        omega
  refine key ops.size _ _ _ ⟨by simp, ⟨rfl, rfl, rfl, Nat.le_refl _, fun _ _ => rfl⟩, rfl, rfl, fun _ _ => rfl, fun i o t hi _ hl => ?_, fun i o hi hl => ?_⟩ ?_
  · rw [Array.getD_eq_getD_getElem?, Array.getElem?_replicate] at hl
    split at hl <;> cases hl
  · rw [Array.getD_eq_getD_getElem?, Array.getElem?_replicate] at hl
    split at hl <;> cases hl
  · exact Nat.le_trans List.countP_le_length (by simp)

/-- The frame behind the region. -/
def putAll (a0 : Act) (f : Nat → Value) (l : List Nat) : Act := l.foldl (fun b t => b.put (some t) (f t)) a0

theorem putAll_tmps (f : Nat → Value) : ∀ (l : List Nat) (a0 : Act) (t : Nat), (putAll a0 f l).tmps[t]? = if t ∈ l ∧ t < a0.tmps.size then some (f t) else a0.tmps[t]?
  | [], a0, t => by simp [putAll]
  | x :: l, a0, t => by
    have ih := putAll_tmps f l (a0.put (some x) (f x)) t
    unfold putAll at ih ⊢
    rw [List.foldl_cons, ih]
    simp only [Act.put, Array.size_setIfInBounds, List.mem_cons]
    by_cases hxt : x = t
    · subst hxt
      by_cases hs : x < a0.tmps.size
      · by_cases hm : x ∈ l <;> simp [hm, hs]
      · simp [hs]
    · rw [Array.getElem?_setIfInBounds_ne hxt]
      simp [Ne.symm hxt]

theorem putAll_size (f : Nat → Value) : ∀ (l : List Nat) (a0 : Act), (putAll a0 f l).tmps.size = a0.tmps.size ∧ (putAll a0 f l).defers = a0.defers
  | [], a0 => ⟨rfl, rfl⟩
  | x :: l, a0 => by
    have ih := putAll_size f l (a0.put (some x) (f x))
    unfold putAll at ih ⊢
    rw [List.foldl_cons]
    exact ⟨ih.1.trans (by simp [Act.put]), ih.2.trans rfl⟩

/-- The slots that the region writes. -/
def dsts (ops : Array Oper) : List Nat := ops.toList.filterMap (·.dst)

theorem wp_region_each {id : Nat} {a0 : Act} {w0 : World} (hm : P.follows .mixedOrders = true) (V : Nat → World → Value → Prop)
    (hV : ∀ t w w' v, V t w v → Below w.heap.size w w' → V t w' v) (htidy : tidyB ops = true) (hlow : lowB ops = true) (hdst : (ops.toList.all fun o => match o.dst with | some t => decide (t < a0.tmps.size) | none => false) = true)
    (l : List Nat) (hl : dsts ops = l)
    (hstep : ∀ (i : Nat) (o : Oper), ops[i]? = some o → ∀ (a : Act) (w : World), Below w0.heap.size w0 w → a.tmps.size = a0.tmps.size → Given ops V a0 o a w →
      wpOp P ops Q i (fun a' w' => ∃ v, a' = a.put o.dst v ∧ Below w.heap.size w w' ∧ ∀ t, o.dst = some t → V t w' v) a w)
    (hend : ∀ (f : Nat → Value) (w : World), Below w0.heap.size w0 w → (∀ t, t ∈ l → V t w (f t)) → Q .normal (putAll a0 f l) w) :
    (Code.region id ops true).wp P Q a0 w0 := by
  have hd : ∀ (i : Nat) (o : Oper), ops[i]? = some o → ∃ t : Nat, o.dst = some t ∧ t < a0.tmps.size := by
    intro i o ho
    rw [List.all_eq_true] at hdst
    have h1 := hdst o (by obtain ⟨h, rfl⟩ := Array.getElem?_eq_some_iff.1 ho; simp)
    cases hod : o.dst with
    | none => rw [hod] at h1; cases h1
    | some t => rw [hod] at h1; exact ⟨t, rfl, of_decide_eq_true h1⟩
  have hmem : ∀ t, t ∈ l ↔ ∃ (i : Nat) (o : Oper), ops[i]? = some o ∧ o.dst = some t := by
    intro t
    rw [← hl, dsts, List.mem_filterMap]
    constructor
    · rintro ⟨o, ho, hot⟩
      obtain ⟨i, hi, rfl⟩ := List.mem_iff_getElem.1 ho
      have hi' : i < ops.size := by simpa using hi
      exact ⟨i, ops[i], by simp [hi'], by simpa using hot⟩
    · rintro ⟨i, o, ho, hot⟩
      obtain ⟨h, rfl⟩ := Array.getElem?_eq_some_iff.1 ho
      exact ⟨ops[i], by simp, hot⟩
  refine wp_region_kept hm V hV htidy hd hstep ?_ hlow
  intro a w hb hdef hlen hold hnew
  have hf : ∀ t, t ∈ l → ∃ v, a.tmps[t]? = some v ∧ V t w v := fun t ht => by
    obtain ⟨i, o, ho, hot⟩ := (hmem t).1 ht
    exact hnew i o t ho hot
  have ha : a = putAll a0 (fun t => a.tmps.getD t undef) l := by
    obtain ⟨tm, df⟩ := a
    obtain ⟨h1, h2⟩ := putAll_size (fun t => tm.getD t undef) l a0
    have h3 : tm = (putAll a0 (fun t => tm.getD t undef) l).tmps := by
      apply Array.ext_getElem?
      intro t
      rw [putAll_tmps]
      by_cases ht : t ∈ l
      · obtain ⟨v, hv, -⟩ := hf t ht
        simp only [] at hv
        have hts : t < a0.tmps.size := by rw [← hlen]; exact (Array.getElem?_eq_some_iff.1 hv).1
        rw [if_pos ⟨ht, hts⟩, Array.getD_eq_getD_getElem?, hv]
        rfl
      · rw [if_neg (fun h => ht h.1)]
        exact hold t fun i o ho hot => ht ((hmem t).2 ⟨i, o, ho, hot⟩)
    have h4 : df = (putAll a0 (fun t => tm.getD t undef) l).defers := by rw [h2]; exact hdef
    calc (⟨tm, df⟩ : Act) = ⟨(putAll a0 (fun t => tm.getD t undef) l).tmps, (putAll a0 (fun t => tm.getD t undef) l).defers⟩ := by rw [← h3, ← h4]
      _ = _ := rfl
  rw [ha]
  refine hend _ w hb fun t ht => ?_
  obtain ⟨v, hv, hVv⟩ := hf t ht
  rw [Array.getD_eq_getD_getElem?, hv]
  exact hVv

theorem st_yield {K : Act → World → Prop} {i : Nat} {o : Oper} {a : Act} {w : World} (ho : ops[i]? = some o) (hw : Region.wanted o (yielded ops a.tmps) = true) (v : Value) (w' : World)
    (hrun : (execOp a.eval o).run P w = .ok (.value v) w') (h : K (a.put o.dst v) w') : wpOp P ops Q i K a w := by
  unfold wpOp
  rw [ho]
  simp only [hw, if_true]
  refine .inl ?_
  unfold Oper.wp
  rw [hrun, Oper.upon_value]
  exact h

theorem st_enter {K : Act → World → Prop} {i : Nat} {o : Oper} {a : Act} {w w1 : World} (ho : ops[i]? = some o) (hw : Region.wanted o (yielded ops a.tmps) = true) (f : FuncId) (args : Array Value)
    (hrun : (execOp a.eval o).run P w = .ok (.enter f args) w1) (h : Calls P f args w1 fun e w' => ∃ v, e = .returned v ∧ K (a.put o.dst v) w') : wpOp P ops Q i K a w := by
  unfold wpOp
  rw [ho]
  simp only [hw, if_true]
  refine .inl ?_
  unfold Oper.wp
  rw [hrun, Oper.upon_enter]
  refine h.mono ?_
  rintro e w' ⟨v, rfl, hk⟩
  exact hk

theorem given_fed {V : Nat → World → Value → Prop} {a0 : Act} {o : Oper} {a : Act} {w : World} (hg : Given ops V a0 o a w) (t : Nat) (h : ((o.looksAt ops).contains t && fedB ops o t) = true) : ∃ v, a.tmps[t]? = some v ∧ V t w v := by
  rw [Bool.and_eq_true, List.contains_iff_mem] at h
  exact (hg t h.1).1 h.2
theorem given_old {V : Nat → World → Value → Prop} {a0 : Act} {o : Oper} {a : Act} {w : World} (hg : Given ops V a0 o a w) (t : Nat) (h : ((o.looksAt ops).contains t && !fedB ops o t) = true) : a.tmps[t]? = a0.tmps[t]? := by
  rw [Bool.and_eq_true, List.contains_iff_mem, Bool.not_eq_true'] at h
  exact (hg t h.1).2 h.2
theorem wanted_none {o : Oper} {y : Nat → Option Bool} (h : o.guard = none) : Region.wanted o y = true := by simp [Region.wanted, h]
theorem wanted_some {o : Oper} {tmps : Array Value} {g : Nat} {p b : Bool} {t : Nat} (h : o.guard = some (g, p)) (hp : (ops[g]?).bind (·.dst) = some t) (hv : tmps[t]? = some (.bool b)) (hb : b = p) : Region.wanted o (yielded ops tmps) = true := by
  subst hb
  simp [Region.wanted, h, yielded, hp, hv]
end

end Go.Proofs.YthbnecdeebmlhaaGreat

namespace Go.Proofs.YthbnecdeebmlhaaGreat
open Go.RowKit

/-- Each slot that one of the first n looks at is written ahead of it, or behind it. -/
def tidyN (ops : Array Oper) (n : Nat) : Bool :=
  (List.range n).all fun i => match ops[i]? with
    | some o => (o.looksAt ops).all fun t => fedB ops o t || lateB ops i t
    | none => true
/-- Behind the first n each waits for the one ahead. -/
def chainN (ops : Array Oper) (n : Nat) : Bool :=
  (List.range ops.size).all fun i => decide (i ≤ n) || (match ops[i]? with | some o => o.after.any fun e => Region.binds .any e && e.on == i - 1 | none => true)
def edges (ops : Array Oper) (i : Nat) : List Nat := match ops[i]? with | some o => (o.after.toList.filter (Region.binds .any ·)).map (·.on) | none => []
def reach (ops : Array Oper) : Nat → List Nat → List Nat
  | 0, m => m
  | k + 1, m => reach ops k (if m.contains k then m ++ edges ops k else m)
/-- Operation n waits for all ahead of it. -/
def waitN (ops : Array Oper) (n : Nat) : Bool := (List.range n).all fun j => (reach ops n (edges ops n)).contains j

theorem edges_mem {ops : Array Oper} {i : Nat} {o : Oper} (ho : ops[i]? = some o) {j : Nat} (hj : j ∈ edges ops i) : ∃ e ∈ o.after, Region.binds .any e = true ∧ e.on = j := by
  unfold edges at hj
  rw [ho] at hj
  obtain ⟨e, he, rfl⟩ := List.mem_map.1 hj
  rw [List.mem_filter] at he
  exact ⟨e, by simpa using he.1, he.2, rfl⟩

theorem reach_listed {ops : Array Oper} {listed : Array Bool} (hshut : ∀ (i : Nat) (o : Oper), ops[i]? = some o → listed.getD i false = true → ∀ e ∈ o.after, Region.binds .any e = true → listed.getD e.on false = true) :
    ∀ (k : Nat) (m : List Nat), (∀ j ∈ m, listed.getD j false = true) → ∀ j ∈ reach ops k m, listed.getD j false = true
  | 0, m, hm, j, hj => hm j hj
  | k + 1, m, hm, j, hj => by
    refine reach_listed hshut k _ ?_ j hj
    intro x hx
    split at hx
    · rename_i hk
      rcases List.mem_append.1 hx with h | h
      · exact hm x h
      · rw [List.contains_iff_mem] at hk
        cases ho : ops[k]? with
        | none => unfold edges at h; rw [ho] at h; cases h
        | some o =>
          obtain ⟨e, he, hb, rfl⟩ := edges_mem ho h
          exact hshut k o ho (hm k hk) e he hb
    · exact hm x hx

section
variable {P : Program} {ops : Array Oper} {Q : Exit → Act → World → Prop}

theorem wpAny_more : ∀ (fuel : Nat) (listed : Array Bool) (a : Act) (w : World), wpAny P .any ops Q fuel listed a w → wpAny P .any ops Q (fuel + 1) listed a w
  | 0, listed, a, w, h => ⟨fun _ => h.2, fun i hi => by rw [h.1] at hi; cases hi⟩
  | fuel + 1, listed, a, w, h => ⟨h.1, fun i hi => wpOp_mono (fun a' w' h' => wpAny_more fuel _ a' w' h') (h.2 i hi)⟩
theorem wpAny_le {fuel fuel' : Nat} (hle : fuel ≤ fuel') {listed : Array Bool} {a : Act} {w : World} (h : wpAny P .any ops Q fuel listed a w) : wpAny P .any ops Q fuel' listed a w := by
  induction hle with
  | refl => exact h
  | step _ ih => exact wpAny_more _ _ _ _ ih

theorem tail_list {n : Nat} (hlow : lowB ops = true) (hchain : chainN ops n = true) : ∀ (k m : Nat) (listed : Array Bool) (a : Act) (w : World), n ≤ m → m + k = ops.size → listed.size = ops.size → (∀ i, i < ops.size → listed.getD i false = decide (i < m)) →
    wpList P ops Q (ops.toList.drop m) a w → wpAny P .any ops Q k listed a w := by
  have hd : ∀ (l : Array Bool) (i : Nat), i < l.size → l.getD i true = l.getD i false := by intro l i hi; simp [hi]
  intro k
  induction k with
  | zero =>
    intro m listed a w hnm hmk hsize hl hq
    rw [List.drop_of_length_le (by rw [Array.length_toList]; omega)] at hq
    refine ⟨?_, hq⟩
    cases hr : Region.ready .any ops listed with
    | nil => rfl
    | cons x xs =>
      obtain ⟨hun, o, ho, -⟩ := mem_ready.1 (show x ∈ Region.ready .any ops listed by rw [hr]; simp)
      have hx : x < ops.size := (Array.getElem?_eq_some_iff.1 ho).1
      rw [hd _ _ (by omega), hl x hx] at hun
      simp at hun
      omega
  | succ k ih =>
    intro m listed a w hnm hmk hsize hl hq
    have hm : m < ops.size := by omega
    have hom : ops[m]? = some ops[m] := by simp [hm]
    have hready : m ∈ Region.ready .any ops listed := by
      rw [mem_ready]
      refine ⟨by rw [hd _ _ (by omega), hl m hm]; simp, ops[m], hom, fun e he hb => ?_⟩
      have h1 := hlow
      unfold lowB at h1
      rw [List.all_eq_true] at h1
      have h2 := h1 m (by rw [List.mem_range]; exact hm)
      rw [hom] at h2
      simp only [Array.all_eq_true] at h2
      obtain ⟨j, hj, rfl⟩ := Array.mem_iff_getElem.1 he
      have h3 := h2 j hj
      rw [hb] at h3
      have hlt : (ops[m].after[j]).on < m := by simpa using h3
      rw [hl _ (by omega)]
      simpa using hlt
    refine ⟨fun hr => (by rw [hr] at hready; cases hready), fun i hi => ?_⟩
    obtain ⟨hun, o, ho, hall⟩ := mem_ready.1 hi
    have hi' : i < ops.size := (Array.getElem?_eq_some_iff.1 ho).1
    rw [hd _ _ (by omega), hl i hi'] at hun
    have him : m ≤ i := by simpa using hun
    have hie : i = m := by
      rcases Nat.lt_or_ge m i with hlt | hge
      · exfalso
        have h1 := hchain
        unfold chainN at h1
        rw [List.all_eq_true] at h1
        have h2 := h1 i (by rw [List.mem_range]; exact hi')
        rw [ho] at h2
        simp only [Bool.or_eq_true, decide_eq_true_eq, Array.any_eq_true, Bool.and_eq_true, beq_iff_eq] at h2
        rcases h2 with h2 | ⟨j, hj, hb, hon⟩
        · omega
        · have h3 := hall _ (Array.getElem_mem hj) hb
          rw [hon, hl _ (by omega)] at h3
          simp at h3
          omega
      · omega
    subst hie
    have hdrop : ops.toList.drop i = ops[i] :: ops.toList.drop (i + 1) := by
      rw [List.drop_eq_getElem_cons (by rw [Array.length_toList]; exact hi')]
      simp
    rw [hdrop] at hq
    have hset : ∀ j, j < ops.size → (listed.setIfInBounds i true).getD j false = decide (j < i + 1) := by
      intro j hj
      by_cases hji : j = i
      · subst hji; simp [hsize, hj]
      · have : (listed.setIfInBounds i true).getD j false = listed.getD j false := by simp [Array.getElem?_setIfInBounds_ne (Ne.symm hji), Array.getD_eq_getD_getElem?]
        rw [this, hl j hj]
        simp
        omega
    have hK : ∀ a' w', wpList P ops Q (ops.toList.drop (i + 1)) a' w' → wpAny P .any ops Q k (listed.setIfInBounds i true) a' w' := fun a' w' h => ih (i + 1) _ a' w' (by omega) (by omega) (by simp [hsize]) hset h
    refine wpOp_mono hK ?_
    unfold wpOp
    rw [hom]
    exact hq

theorem wp_region_kept_head {id : Nat} {a0 : Act} {w0 : World} (n : Nat) (hn : n ≤ ops.size) (hm : P.follows .mixedOrders = true) (V : Nat → World → Value → Prop)
    (hV : ∀ t w w' v, V t w v → Below w.heap.size w w' → V t w' v) (htidy : tidyN ops n = true) (hdst : ∀ (i : Nat) (o : Oper), i < n → ops[i]? = some o → ∃ t : Nat, o.dst = some t ∧ t < a0.tmps.size)
    (hstep : ∀ (i : Nat) (o : Oper), i < n → ops[i]? = some o → ∀ (a : Act) (w : World), Below w0.heap.size w0 w → a.tmps.size = a0.tmps.size → Given ops V a0 o a w →
      wpOp P ops Q i (fun a' w' => ∃ v, a' = a.put o.dst v ∧ Below w.heap.size w w' ∧ ∀ t, o.dst = some t → V t w' v) a w)
    (hend : ∀ (a : Act) (w : World), Below w0.heap.size w0 w → a.defers = a0.defers → a.tmps.size = a0.tmps.size → (∀ t : Nat, (∀ (i : Nat) (o : Oper), i < n → ops[i]? = some o → o.dst ≠ some t) → a.tmps[t]? = a0.tmps[t]?) →
      (∀ (i : Nat) (o : Oper) (t : Nat), i < n → ops[i]? = some o → o.dst = some t → ∃ v, a.tmps[t]? = some v ∧ V t w v) → wpList P ops Q (ops.toList.drop n) a w)
    (hlow : lowB ops = true) (hchain : chainN ops n = true) (hwait : waitN ops n = true) :
    (Code.region id ops true).wp P Q a0 w0 := by
  refine wp_region_any hm ?_
  have hd : ∀ (l : Array Bool) (i : Nat), i < l.size → l.getD i true = l.getD i false := by intro l i hi; simp [hi]
  have hfin : ∀ (listed : Array Bool) (a : Act) (w : World) (fuel : Nat), Held ops V a0 w0 listed a w → (∀ i, n ≤ i → listed.getD i false = false) → (∀ i, i < n → listed.getD i false = true) → ops.size - n ≤ fuel → wpAny P .any ops Q fuel listed a w := by
    intro listed a w fuel h hno hyes hf
    refine wpAny_le hf (tail_list hlow hchain (ops.size - n) n listed a w (Nat.le_refl _) (by omega) h.size ?_ ?_)
    · intro i hi
      rcases Nat.lt_or_ge i n with hlt | hge
      · rw [hyes i hlt]; simp [hlt]
      · rw [hno i hge]; simp [Nat.not_lt.2 hge]
    · refine hend a w h.below h.defers h.len (fun t ht => h.old t fun i o hi hd' => ?_) fun i o t hin hi hd' => h.new i o t hi hd' (hyes i hin)
      rcases Nat.lt_or_ge i n with hlt | hge
      · exact absurd hd' (ht i o hlt hi)
      · exact hno i hge
  have key : ∀ (fuel : Nat) (listed : Array Bool) (a : Act) (w : World), Held ops V a0 w0 listed a w → (∀ i, n ≤ i → listed.getD i false = false) →
      (List.range ops.size).countP (fun j => !listed.getD j true) ≤ fuel → wpAny P .any ops Q fuel listed a w := by
    intro fuel
    induction fuel with
    | zero =>
      intro listed a w h hno hcount
      have hall : ∀ i, i < ops.size → listed.getD i false = true := by
        intro i hi
        cases hl : listed.getD i false with
        | true => rfl
        | false =>
          have : 0 < (List.range ops.size).countP (fun j => !listed.getD j true) := List.countP_pos_iff.2 ⟨i, by rw [List.mem_range]; exact hi, by rw [hd _ _ (by rw [h.size]; exact hi), hl]; rfl⟩
          omega
      have hns : ops.size ≤ n := by
        rcases Nat.lt_or_ge n ops.size with hlt | hge
        · have := hall n hlt
          rw [hno n (Nat.le_refl _)] at this
          cases this
        · exact hge
      exact hfin listed a w 0 h hno (fun i hi => hall i (by omega)) (by omega)
    | succ fuel ih =>
      intro listed a w h hno hcount
      by_cases hyes : ∀ i, i < n → listed.getD i false = true
      · refine hfin listed a w _ h hno hyes ?_
        have : ops.size - n ≤ (List.range ops.size).countP (fun j => !listed.getD j true) := by
          have h1 : (List.range' n (ops.size - n)).countP (fun j => !listed.getD j true) = ops.size - n := by
            rw [List.countP_eq_length.2, List.length_range']
            intro j hj
            rw [List.mem_range'_1] at hj
            rw [hd _ _ (by rw [h.size]; omega), hno j hj.1]
            rfl
          have h2 : List.range ops.size = List.range n ++ List.range' n (ops.size - n) := by
            rw [List.range_eq_range', List.range_eq_range']
            have h3 := List.range'_append_1 (s := 0) (m := n) (n := ops.size - n)
            rw [Nat.zero_add] at h3
            rw [h3]
            congr 1
            omega
          rw [h2, List.countP_append, h1]
          omega
        omega
      · have hsmall : ∀ i ∈ Region.ready .any ops listed, i < n := by
          intro i hi
          obtain ⟨hun, o, ho, hall⟩ := mem_ready.1 hi
          have hi' : i < ops.size := (Array.getElem?_eq_some_iff.1 ho).1
          rcases Nat.lt_or_ge i n with hlt | hge
          · exact hlt
          exfalso
          rcases Nat.lt_or_ge n i with hlt | hge2
          · have h1 := hchain
            unfold chainN at h1
            rw [List.all_eq_true] at h1
            have h2 := h1 i (by rw [List.mem_range]; exact hi')
            rw [ho] at h2
            simp only [Bool.or_eq_true, decide_eq_true_eq, Array.any_eq_true, Bool.and_eq_true, beq_iff_eq] at h2
            rcases h2 with h2 | ⟨j, hj, hb, hon⟩
            · omega
            · have h3 := hall _ (Array.getElem_mem hj) hb
              rw [hon, hno _ (by omega)] at h3
              cases h3
          · obtain rfl : i = n := by omega
            refine hyes fun j hj => ?_
            have h1 := hwait
            unfold waitN at h1
            rw [List.all_eq_true] at h1
            have h2 := h1 j (by rw [List.mem_range]; exact hj)
            rw [List.contains_iff_mem] at h2
            refine reach_listed h.shut i (edges ops i) ?_ j h2
            intro x hx
            obtain ⟨e, he, hb, rfl⟩ := edges_mem ho hx
            exact hall e he hb
        have hne : Region.ready .any ops listed ≠ [] := by
          intro hr
          apply hyes
          intro i hi
          exact listed_all hlow h.size hr i (ops[i]'(by omega)) (by simp)
        refine ⟨fun hr => absurd hr hne, fun i hi => ?_⟩
        have hin := hsmall i hi
        obtain ⟨hun, o, ho, hall⟩ := mem_ready.1 hi
        have hil : i < listed.size := by
          rw [h.size]
          exact (Array.getElem?_eq_some_iff.1 ho).1
        have hunf := getD_false_of hil hun
        have hgiven : Given ops V a0 o a w := by
          intro t ht
          refine ⟨fun hf => ?_, fun hf => ?_⟩
          · unfold fedB at hf
            rw [Array.any_eq_true] at hf
            obtain ⟨k, hk, hke⟩ := hf
            simp only [Bool.and_eq_true] at hke
            obtain ⟨hb, hw⟩ := hke
            have hl := hall o.after[k] (Array.getElem_mem hk) hb
            cases hp : ops[(o.after[k]).on]? with
            | none => rw [hp] at hw; cases hw
            | some p =>
              rw [hp] at hw
              exact h.new _ p t hp (by simpa using hw) hl
          · refine h.old t fun j p hj hd => ?_
            have hti := htidy
            unfold tidyN at hti
            rw [List.all_eq_true] at hti
            have h1 := hti i (by rw [List.mem_range]; exact hin)
            rw [ho] at h1
            simp only [List.all_eq_true] at h1
            have h2 := h1 t ht
            rw [hf, Bool.false_or] at h2
            unfold lateB at h2
            rw [List.all_eq_true] at h2
            have h3 := h2 j (by rw [List.mem_range]; exact (Array.getElem?_eq_some_iff.1 hj).1)
            rw [hj] at h3
            simp only [hd, bne_self_eq_false, Bool.false_or, Array.any_eq_true, Bool.and_eq_true] at h3
            obtain ⟨k, hk, hb, hon⟩ := h3
            cases hlj : listed.getD j false with
            | false => rfl
            | true =>
              have := h.shut j p hj hlj p.after[k] (Array.getElem_mem hk) hb
              rw [show (p.after[k]).on = i from by simpa using hon, hunf] at this
              cases this
        refine wpOp_mono ?_ (hstep i o hin ho a w h.below h.len hgiven)
        rintro a' w' ⟨v, rfl, hb, hv⟩
        obtain ⟨d, hd', hdl⟩ := hdst i o hin ho
        have hset : ∀ j, (listed.setIfInBounds i true).getD j false = if j = i then true else listed.getD j false := by
          intro j
          by_cases hji : j = i
          · subst hji; simp [hil]
          · simp [hji, Array.getElem?_setIfInBounds_ne (Ne.symm hji), Array.getD_eq_getD_getElem?]
        refine ih _ _ _ ⟨by simpa using h.size, h.below.trans (hb.mono h.below.size), ?_, ?_, ?_, ?_, ?_⟩ ?_ ?_
        · rw [hd']; exact h.defers
        · rw [hd']; simp [Act.put, h.len]
        · intro t ht
          have hdt : d ≠ t := by
            intro e
            subst e
            have := ht i o ho hd'
            rw [hset, if_pos rfl] at this
            cases this
          rw [hd']
          simp only [Act.put]
          rw [Array.getElem?_setIfInBounds_ne hdt]
          refine h.old t fun j p hj hdj => ?_
          have := ht j p hj hdj
          rw [hset] at this
          split at this
          · cases this
          · exact this
        · intro j p t hj hdj hlj
          rw [hd']
          simp only [Act.put]
          by_cases hdt : d = t
          · subst hdt
            have : d < a.tmps.size := by rw [h.len]; exact hdl
            exact ⟨v, by simp [this], hv d hd'⟩
          · rw [Array.getElem?_setIfInBounds_ne hdt]
            rw [hset] at hlj
            split at hlj
            · rename_i hji
              subst hji
              rw [ho] at hj
              cases hj
              rw [hd'] at hdj
              exact absurd (Option.some.inj hdj) hdt
            · obtain ⟨u, hu, hVu⟩ := h.new j p t hj hdj hlj
              exact ⟨u, hu, hV _ _ _ _ hVu hb⟩
        · intro j p hj hlj e he hbe
          rw [hset] at hlj ⊢
          split
          · rfl
          · split at hlj
            · rename_i hji
              subst hji
              rw [ho] at hj
              cases hj
              exact hall e he hbe
            · exact h.shut j p hj hlj e he hbe
        · intro j hj
          rw [hset, if_neg (by omega)]
          exact hno j hj
        · have : (List.range ops.size).countP (fun j => !(listed.setIfInBounds i true).getD j true) < (List.range ops.size).countP (fun j => !listed.getD j true) := by
            refine countP_lt (i := i) (fun j hj hq => ?_) (by rw [List.mem_range, ← h.size]; exact hil) (by rw [hun]; rfl) (by simp [hil])
            by_cases hji : j = i
            · subst hji; rw [hun]; rfl
            · simp only [Array.getD_eq_getD_getElem?] at hq ⊢
              rwa [Array.getElem?_setIfInBounds_ne (Ne.symm hji)] at hq
          omega
  refine key ops.size _ _ _ ⟨by simp, ⟨rfl, rfl, rfl, Nat.le_refl _, fun _ _ => rfl⟩, rfl, rfl, fun _ _ => rfl, fun i o t hi _ hl => ?_, fun i o hi hl => ?_⟩ (fun i _ => ?_) ?_
  · rw [Array.getD_eq_getD_getElem?, Array.getElem?_replicate] at hl
    split at hl <;> cases hl
  · rw [Array.getD_eq_getD_getElem?, Array.getElem?_replicate] at hl
    split at hl <;> cases hl
  · rw [Array.getD_eq_getD_getElem?, Array.getElem?_replicate]
    split <;> rfl
  · exact Nat.le_trans List.countP_le_length (by simp)

/-- The slots that the first n write. -/
def dstsN (ops : Array Oper) (n : Nat) : List Nat := (ops.toList.take n).filterMap (·.dst)

theorem wp_region_head {id : Nat} {a0 : Act} {w0 : World} (n : Nat) (hn : n ≤ ops.size) (hm : P.follows .mixedOrders = true) (V : Nat → World → Value → Prop)
    (hV : ∀ t w w' v, V t w v → Below w.heap.size w w' → V t w' v) (hcheck : (tidyN ops n && lowB ops && chainN ops n && waitN ops n) = true)
    (hdst : ((ops.toList.take n).all fun o => match o.dst with | some t => decide (t < a0.tmps.size) | none => false) = true)
    (l : List Nat) (hl : dstsN ops n = l)
    (hstep : ∀ (i : Nat) (o : Oper), i < n → ops[i]? = some o → ∀ (a : Act) (w : World), Below w0.heap.size w0 w → a.tmps.size = a0.tmps.size → Given ops V a0 o a w →
      wpOp P ops Q i (fun a' w' => ∃ v, a' = a.put o.dst v ∧ Below w.heap.size w w' ∧ ∀ t, o.dst = some t → V t w' v) a w)
    (hend : ∀ (f : Nat → Value) (w : World), Below w0.heap.size w0 w → (∀ t, t ∈ l → V t w (f t)) → wpList P ops Q (ops.toList.drop n) (putAll a0 f l) w) :
    (Code.region id ops true).wp P Q a0 w0 := by
  simp only [Bool.and_eq_true] at hcheck
  obtain ⟨⟨⟨htidy, hlow⟩, hchain⟩, hwait⟩ := hcheck
  have hget : ∀ (i : Nat) (o : Oper), i < n → ops[i]? = some o → o ∈ ops.toList.take n := by
    intro i o hin ho
    rw [List.mem_take_iff_getElem]
    obtain ⟨h, rfl⟩ := Array.getElem?_eq_some_iff.1 ho
    exact ⟨i, by simp; omega, by simp⟩
  have hd : ∀ (i : Nat) (o : Oper), i < n → ops[i]? = some o → ∃ t : Nat, o.dst = some t ∧ t < a0.tmps.size := by
    intro i o hin ho
    rw [List.all_eq_true] at hdst
    have h1 := hdst o (hget i o hin ho)
    cases hod : o.dst with
    | none => rw [hod] at h1; cases h1
    | some t => rw [hod] at h1; exact ⟨t, rfl, of_decide_eq_true h1⟩
  have hmem : ∀ t, t ∈ l ↔ ∃ (i : Nat) (o : Oper), i < n ∧ ops[i]? = some o ∧ o.dst = some t := by
    intro t
    rw [← hl, dstsN, List.mem_filterMap]
    constructor
    · rintro ⟨o, ho, hot⟩
      obtain ⟨i, hi, rfl⟩ := List.mem_take_iff_getElem.1 ho
      have hi' : i < ops.size := by simp at hi; omega
      exact ⟨i, ops[i], by omega, by simp [hi'], by simpa using hot⟩
    · rintro ⟨i, o, hin, ho, hot⟩
      exact ⟨o, hget i o hin ho, hot⟩
  refine wp_region_kept_head n hn hm V hV htidy hd hstep ?_ hlow hchain hwait
  intro a w hb hdef hlen hold hnew
  have hf : ∀ t, t ∈ l → ∃ v, a.tmps[t]? = some v ∧ V t w v := fun t ht => by
    obtain ⟨i, o, hin, ho, hot⟩ := (hmem t).1 ht
    exact hnew i o t hin ho hot
  have ha : a = putAll a0 (fun t => a.tmps.getD t undef) l := by
    obtain ⟨tm, df⟩ := a
    obtain ⟨h1, h2⟩ := putAll_size (fun t => tm.getD t undef) l a0
    have h3 : tm = (putAll a0 (fun t => tm.getD t undef) l).tmps := by
      apply Array.ext_getElem?
      intro t
      rw [putAll_tmps]
      by_cases ht : t ∈ l
      · obtain ⟨v, hv, -⟩ := hf t ht
        simp only [] at hv
        have hts : t < a0.tmps.size := by rw [← hlen]; exact (Array.getElem?_eq_some_iff.1 hv).1
        rw [if_pos ⟨ht, hts⟩, Array.getD_eq_getD_getElem?, hv]
        rfl
      · rw [if_neg (fun h => ht h.1)]
        exact hold t fun i o hin ho hot => ht ((hmem t).2 ⟨i, o, hin, ho, hot⟩)
    have h4 : df = (putAll a0 (fun t => tm.getD t undef) l).defers := by rw [h2]; exact hdef
    calc (⟨tm, df⟩ : Act) = ⟨(putAll a0 (fun t => tm.getD t undef) l).tmps, (putAll a0 (fun t => tm.getD t undef) l).defers⟩ := by rw [← h3, ← h4]
      _ = _ := rfl
  rw [ha]
  refine hend _ w hb fun t ht => ?_
  obtain ⟨v, hv, hVv⟩ := hf t ht
  rw [Array.getD_eq_getD_getElem?, hv]
  exact hVv

/-- An operation of a region by a law over lists of operations. -/
theorem st_list {K : Act → World → Prop} {i : Nat} {o : Oper} {a : Act} {w : World} (ho : ops[i]? = some o) (hw : Region.wanted o (yielded ops a.tmps) = true)
    (h : ∀ Q' : Exit → Act → World → Prop, (∀ a' w', K a' w' → Q' .normal a' w') → wpList P ops Q' [o] a w) : wpOp P ops Q i K a w := by
  have h1 := h (fun ex a' w' => ex = .normal ∧ K a' w') (fun a' w' hk => ⟨rfl, hk⟩)
  unfold wpList at h1
  rw [if_pos hw] at h1
  unfold wpOp
  rw [ho]
  simp only [hw, if_true]
  refine .inl ?_
  rcases h1 with h1 | ⟨-, a', w', he, -⟩
  · unfold Oper.wp at *
    generalize (execOp a.eval o).run P w = r at *
    cases r with
    | ok n w' =>
      cases n <;> simp only [Oper.upon] at h1 ⊢ <;>
        first
          | exact h1.2
          | exact Rows.mono h1 (fun _ _ he => he.2)
          | exact Calls.mono h1 (fun e w'' he => by
              cases e with
              | returned v => exact he.2
              | panicked c => exact absurd he.1 (by simp)
              | outgrown => obtain ⟨_, _, hx, _⟩ := he; cases hx)
    | halt x w' =>
      cases x <;> simp only [Oper.upon] at h1 ⊢ <;> first | exact h1 | exact absurd h1.1 (by simp)
  · cases he

end

end Go.Proofs.YthbnecdeebmlhaaGreat

namespace Go.Proofs.YthbnecdeebmlhaaGreat
open Go.RowKit

theorem set_rec (w : World) (g : Nat) (a b c d e x p q r : Value) (t : TypeId) (hg : w.heap[g]? = some (.cells #[a, b, c, d, e] t (0, 0))) :
    (w.setCell ⟨g, 0, none⟩ x).setCells g 2 [p, q, r] = w.setRow g #[x, b, p, q, r] := by
  rw [setCell_eq_setRow w g 0 _ t (0, 0) x hg]
  have h1 := setRow_heap w g _ (#[a, b, c, d, e].setIfInBounds 0 x) t (0, 0) hg
  simp only [World.setCells]
  rw [setCell_eq_setRow _ g 2 _ t (0, 0) p h1, setRow_setRow]
  have h2 := setRow_heap w g _ ((#[a, b, c, d, e].setIfInBounds 0 x).setIfInBounds 2 p) t (0, 0) hg
  rw [setCell_eq_setRow _ g 3 _ t (0, 0) q h2, setRow_setRow]
  have h3 := setRow_heap w g _ (((#[a, b, c, d, e].setIfInBounds 0 x).setIfInBounds 2 p).setIfInBounds 3 q) t (0, 0) hg
  rw [setCell_eq_setRow _ g 4 _ t (0, 0) r h3, setRow_setRow]
  simp

theorem there_row (w : World) (b : Nat) (C : Array Value) (t : TypeId) (hb : w.heap[b]? = some (.cells C t (0, 0))) (o n : Nat) (h : o + n ≤ C.size) : w.there b o n := fun j hj =>
  ⟨by rw [cell_of_row w b (o + j) C t (0, 0) hb, Array.getElem?_eq_getElem (by omega)]; rfl, frozen_of_row w b (o + j) C t hb⟩
theorem rec_cells_one (key : ByteArray) (gone : Bool) (k n : Int) (s : ByteArray) : (#[.string key, .bool gone, .int .i64 k, .int .i64 n, .string s] : Array Value).all (fun x => x.oneCell') = true := by simp [Value.oneCell']

def VC (g : Nat) (key key2 : ByteArray) (k n : Int) (s s2 : ByteArray) : Nat → World → Value → Prop
  | 3, _, v => v = .pointer (some ⟨g, 0, none⟩)
  | 4, _, v => v = .string key
  | 5, _, v => v = .string key2
  | 6, _, v => v = .pointer (some ⟨g, 2, none⟩)
  | 7, _, v => v = .agg #[.int .i64 k, .int .i64 n, .string s]
  | 9, _, v => v = .pointer (some ⟨g, 0, none⟩)
  | 8, _, v => v = .agg #[.int .i64 k, .int .i64 n, .string s2]
  | _, _, _ => True

theorem VC_below (g : Nat) (key key2 : ByteArray) (k n : Int) (s s2 : ByteArray) : ∀ (i : Nat) (w w' : World) (v : Value), VC g key key2 k n s s2 i w v → Below w.heap.size w w' → VC g key key2 k n s s2 i w' v := by
  intro i w w' v h hb
  unfold VC at h ⊢
  split at h <;> first | exact h | trivial | exact RB.below h hb | exact Own.below h hb

set_option maxHeartbeats 1000000 in
set_option maxRecDepth 100000 in
/-- The laws' 'Cut(r)'. -/
theorem rcut_c (key : ByteArray) (gone : Bool) (k n : Int) (s : ByteArray) (w : World) (hk : key.size ≤ maxLen) (hm : s.size ≤ maxLen) :
    Calls Tryz.prog 34 #[recV key gone k n s] w fun e w' => e = .returned (recV (str ((bl key).take 20)) gone k n (str ((bl s).take 30))) ∧ Below w.heap.size w w' := by
  unfold recV
  have C1 := Go.Lib.hid fun W => lcut_c key 20 W hk (by omega)
  have C2 := Go.Lib.hid fun W => vcut_c k n s W hm
  unfold rawV at C2
  clear hk hm
  generalize str ((bl key).take 20) = key2 at *
  generalize str ((bl s).take 30) = s2 at *
  go_enter Tryz.func34, Tryz.ntmps34
  go_upto_region 1 with (fail)
  have hA := two_first w (.cells #[.string key, .bool gone, .int .i64 k, .int .i64 n, .string s] 28) (.cells #[.string ⟨#[]⟩, .bool false, .int .i64 0, .int .i64 0, .string ⟨#[]⟩] 28)
  have hB := heap_alloc2_new w (.cells #[.string key, .bool gone, .int .i64 k, .int .i64 n, .string s] 28) (.cells #[.string ⟨#[]⟩, .bool false, .int .i64 0, .int .i64 0, .string ⟨#[]⟩] 28)
  have hbb := below_two w (.cells #[.string key, .bool gone, .int .i64 k, .int .i64 n, .string s] 28) (.cells #[.string ⟨#[]⟩, .bool false, .int .i64 0, .int .i64 0, .string ⟨#[]⟩] 28)
  generalize hW : (w.alloc (.cells #[.string key, .bool gone, .int .i64 k, .int .i64 n, .string s] 28)).alloc (.cells #[.string ⟨#[]⟩, .bool false, .int .i64 0, .int .i64 0, .string ⟨#[]⟩] 28) = W at *
  clear hW
  have hlt := (Array.getElem?_eq_some_iff.1 hA).1
  have hltB := (Array.getElem?_eq_some_iff.1 hB).1
  have hgb : w.heap.size ≠ w.heap.size + 1 := by omega
  generalize hg0 : w.heap.size = g at *
  generalize hb0 : g + 1 = gB at *
  refine wp_region_head 7 (by decide) (by kernel_rfl) (VC g key key2 k n s s2) (VC_below g key key2 k n s s2) (by decide +kernel) (by rfl) [3, 4, 5, 6, 7, 8, 9] (by rfl) ?_ ?_
  · intro i o hin ho a w6 hb6 hlen hg
    have hA := (hb6.block _ hlt).trans hA
    have x0 := cell_of_row w6 g 0 _ _ _ hA
    have x2 := cell_of_row w6 g 2 _ _ _ hA
    have x3 := cell_of_row w6 g 3 _ _ _ hA
    have x4 := cell_of_row w6 g 4 _ _ _ hA
    simp only [List.getElem?_toArray, List.getElem?_cons_zero, List.getElem?_cons_succ] at x0 x2 x3 x4
    have D1 := fun W => (C1.out W).mono (R' := fun e w' => e = .returned (.string key2) ∧ Below W.heap.size W w') (by rintro e w' ⟨h1, rfl⟩; exact ⟨h1, Below.refl _ _⟩)
    match i, hin, ho with
    | 0, hin, ho =>
      obtain rfl := Option.some.inj ho
      have h1 := given_old hg 1 (by decide +kernel)
      clear hg
      exact st_yield ho (wanted_none rfl) (.pointer (some ⟨g, 0, none⟩)) w6 (by simp [execOp, Act.eval, h1, go_sem]) ⟨_, rfl, Below.refl _ _, by rintro t' ⟨⟩; rfl⟩
    | 1, hin, ho =>
      obtain rfl := Option.some.inj ho
      obtain ⟨_, h3, rfl⟩ := given_fed hg 3 (by decide +kernel)
      clear hg
      exact st_yield ho (wanted_none rfl) (.string key) w6 (by simp [execOp, Act.eval, h3, go_sem, x0]) ⟨_, rfl, Below.refl _ _, by rintro t' ⟨⟩; rfl⟩
    | 2, hin, ho =>
      obtain rfl := Option.some.inj ho
      obtain ⟨_, h4, rfl⟩ := given_fed hg 4 (by decide +kernel)
      clear hg
      exact st_enter (w1 := w6) ho (wanted_none rfl) 10 #[.string key, .int .i64 20] (by simp [execOp, Act.eval, h4, resolve, go_sem]) ((D1 _).mono (by rintro e w7 ⟨rfl, hb7⟩; exact ⟨_, rfl, _, rfl, hb7, by rintro t' ⟨⟩; rfl⟩))
    | 3, hin, ho =>
      obtain rfl := Option.some.inj ho
      have h1 := given_old hg 1 (by decide +kernel)
      clear hg
      exact st_yield ho (wanted_none rfl) (.pointer (some ⟨g, 2, none⟩)) w6 (by simp [execOp, Act.eval, h1, go_sem]) ⟨_, rfl, Below.refl _ _, by rintro t' ⟨⟩; rfl⟩
    | 4, hin, ho =>
      obtain rfl := Option.some.inj ho
      obtain ⟨_, h6, rfl⟩ := given_fed hg 6 (by decide +kernel)
      clear hg
      exact st_yield ho (wanted_none rfl) (.agg #[.int .i64 k, .int .i64 n, .string s]) w6 (by simp [execOp, Act.eval, h6, go_sem, x2, x3, x4]) ⟨_, rfl, Below.refl _ _, by rintro t' ⟨⟩; rfl⟩
    | 5, hin, ho =>
      obtain rfl := Option.some.inj ho
      obtain ⟨_, h7, rfl⟩ := given_fed hg 7 (by decide +kernel)
      clear hg
      exact st_enter (w1 := w6) ho (wanted_none rfl) 65 #[.agg #[.int .i64 k, .int .i64 n, .string s]] (by simp [execOp, Act.eval, h7, resolve, go_sem]) ((C2.out _).mono (by rintro e w7 ⟨rfl, hb7⟩; exact ⟨_, rfl, _, rfl, hb7, by rintro t' ⟨⟩; rfl⟩))
    | 6, hin, ho =>
      obtain rfl := Option.some.inj ho
      have h1 := given_old hg 1 (by decide +kernel)
      clear hg
      exact st_yield ho (wanted_none rfl) (.pointer (some ⟨g, 0, none⟩)) w6 (by simp [execOp, Act.eval, h1, go_sem]) ⟨_, rfl, Below.refl _ _, by rintro t' ⟨⟩; rfl⟩
    | n + 7, hin, ho => omega
  · intro f w6 hb6 hv
    have h3 := hv 3 (by decide); have h4 := hv 4 (by decide); have h5 := hv 5 (by decide); have h6 := hv 6 (by decide); have h7 := hv 7 (by decide); have h8 := hv 8 (by decide); have h9 := hv 9 (by decide)
    simp only [VC] at h3 h4 h5 h6 h7 h8 h9
    have hA6 := (hb6.block _ hlt).trans hA
    have hB6 := (hb6.block _ hltB).trans hB
    have hbb6 := hbb.trans (hb6.mono (by have := hbb.size; omega))
    have hset := set_rec w6 g (.string key) (.bool gone) (.int .i64 k) (.int .i64 n) (.string s) (.string key2) (.int .i64 k) (.int .i64 n) (.string s2) _ hA6
    have hS := setRow_heap w6 g _ #[.string key2, .bool gone, .int .i64 k, .int .i64 n, .string s2] _ (0, 0) hA6
    have hset : (w6.setCell ⟨g, 0, none⟩ (.string key2)).setCells g 2 (#[.int .i64 k, .int .i64 n, .string s2] : Array Value).toList = w6.setRow g #[.string key2, .bool gone, .int .i64 k, .int .i64 n, .string s2] := hset
    have x0 := cell_of_row w6 g 0 _ _ _ hA6
    simp only [List.getElem?_toArray, List.getElem?_cons_zero] at x0
    have f0 : w6.frozen? ⟨g, 0, none⟩ = false := frozen_of_row w6 g 0 _ _ hA6
    have hth : (w6.setCell ⟨g, 0, none⟩ (.string key2)).there g 2 (#[.int .i64 k, .int .i64 n, .string s2] : Array Value).size := there_row _ g _ _ (by rw [setCell_eq_setRow w6 g 0 _ _ (0, 0) _ hA6]; exact setRow_heap w6 g _ _ _ (0, 0) hA6) 2 3 (by simp)
    have hBS := (setRow_other w6 g gB #[.string key2, .bool gone, .int .i64 k, .int .i64 n, .string s2] (by omega)).trans hB6
    have hbS := below_setRow hbb6 (by omega : g ≤ g) #[.string key2, .bool gone, .int .i64 k, .int .i64 n, .string s2]
    have HBS := Go.Lib.hid hBS
    have Hset := Go.Lib.hid hset
    have hfin := setRow_heap (w6.setRow g #[.string key2, .bool gone, .int .i64 k, .int .i64 n, .string s2]) gB _ #[.string key2, .bool gone, .int .i64 k, .int .i64 n, .string s2] _ (0, 0) hBS
    have hbF := below_setRow hbS (by omega : g ≤ gB) #[.string key2, .bool gone, .int .i64 k, .int .i64 n, .string s2]
    have Hfin := Go.Lib.hid hfin
    have Hth := Go.Lib.hid hth
    have hR : (w6.setRow g #[.string key2, .bool gone, .int .i64 k, .int .i64 n, .string s2]).rangeAt g 0 [.string key2, .bool gone, .int .i64 k, .int .i64 n, .string s2] := by simpa using World.rangeAt_of_block hS 0 5
    have HS := Go.Lib.hid hR
    clear hR hfin hBS hset hth hA6 hB6 hA hB hS hlt hltB
    unfold putAll
    simp only [List.foldl, List.drop]
    simp only [h3, h4, h5, h6, h7, h8, h9]
    go_simp
    go_wp2_with (first
      | (with_reducible show wpList _ _ _ (⟨none, Op.store 26 (.tmp 10) (.tmp 8), _, _, _, _⟩ :: _) _ _; go_loud (refine wpList_store_mid rfl 26 (.tmp 10) (.tmp 8) rfl g 2 #[.int .i64 k, .int .i64 n, .string s2] rfl rfl Hth.out (by kernel_rfl) (raw_cells_one ..) ?_); rw [Hset.out])
      | (with_reducible show wpList _ _ _ (⟨some 11, Op.load 28 (.tmp 1), _, _, _, _⟩ :: _) _ _; go_loud (refine wpList_load_mid rfl 28 (.tmp 1) rfl g 0 rfl [.string key2, .bool gone, .int .i64 k, .int .i64 n, .string s2] _ HS.out Tryz.underlying28 rfl (by kernel_rfl) ?_))
      | (with_reducible show wpList _ _ _ (⟨none, Op.store 28 (.tmp 2) (.tmp 11), _, _, _, _⟩ :: _) _ _; go_loud (refine wpList_store_row rfl 28 (.tmp 2) (.tmp 11) rfl gB #[.string key2, .bool gone, .int .i64 k, .int .i64 n, .string s2] rfl rfl 28 _ HBS.out (by kernel_rfl) rfl (rec_cells_one ..) ?_))
      | fail)
    refine bodyPost_ret (results_cell_row rfl _ _ gB 28 #[.string key2, .bool gone, .int .i64 k, .int .i64 n, .string s2] (0, 0) _ rfl Hfin.out Tryz.underlying28 rfl (by kernel_rfl)) rfl ?_
    exact ⟨rfl, hbF⟩

end Go.Proofs.YthbnecdeebmlhaaGreat

namespace Go.Proofs.YthbnecdeebmlhaaGreat
open Go.RowKit

def nullR : RecT := (⟨#[]⟩, false, 0, 0, ⟨#[]⟩)
/-- A record, if there is one. -/
def outR (o : Option RecT) : Value := .tuple #[recOf (o.getD nullR), .bool o.isSome]
theorem outR_some (x : RecT) : outR (some x) = .tuple #[recOf x, .bool true] := rfl
theorem outR_none : outR none = .tuple #[.agg #[.string ⟨#[]⟩, .bool false, .int .i64 0, .int .i64 0, .string ⟨#[]⟩], .bool false] := rfl

end Go.Proofs.YthbnecdeebmlhaaGreat

namespace Go.Proofs.YthbnecdeebmlhaaGreat
open Go.RowKit

/-- How a thing lies in cells, and of which types a row of them is. -/
structure Lay (α : Type) where
  enc : α → List Value
  size : Nat
  elem : TypeId
  row : TypeId
  zero : Value
  bytes : Nat

structure Lay.Ok {α : Type} (K : Lay α) (P : Program) : Prop where
  pos : 0 < K.size
  len : ∀ x, (K.enc x).length = K.size
  one : ∀ x, ∀ u ∈ K.enc x, u.oneCell' = true
  under : P.underlying K.row = some (.slice K.elem)
  info : (P.info? K.elem).map (fun i => (i.zero, i.size, i.bytes)) = some (some K.zero, K.size, K.bytes)
  zsize : K.zero.cells.size = K.size
  fit : K.bytes ≤ 1000

namespace Lay
section
variable {α : Type} {K : Lay α} {P : Program}

def flat (K : Lay α) (l : List α) : List Value := l.flatMap K.enc
theorem flat_append (l m : List α) : K.flat (l ++ m) = K.flat l ++ K.flat m := by simp [flat]
theorem flat_nil : K.flat [] = [] := rfl
theorem flat_cons (x : α) (l : List α) : K.flat (x :: l) = K.enc x ++ K.flat l := by simp [flat]
theorem Ok.flat_len (h : K.Ok P) (l : List α) : (K.flat l).length = l.length * K.size := by
  induction l with
  | nil => simp [flat]
  | cons x l ih => rw [flat_cons, List.length_append, ih, h.len, List.length_cons, Nat.add_mul, Nat.one_mul, Nat.add_comm]
theorem Ok.flat_one (h : K.Ok P) (l : List α) : ∀ u ∈ K.flat l, u.oneCell' = true := by
  intro u hu
  obtain ⟨x, -, hx⟩ := List.mem_flatMap.1 hu
  exact h.one x u hx
theorem Ok.flat_at (h : K.Ok P) : ∀ (l : List α) (i j : Nat) (hi : i < l.length), j < K.size → (K.flat l)[i * K.size + j]? = (K.enc l[i])[j]?
  | [], i, j, hi, _ => absurd hi (by simp)
  | x :: l, 0, j, hi, hj => by rw [flat_cons, Nat.zero_mul, Nat.zero_add, List.getElem?_append_left (by rw [h.len]; exact hj)]; rfl
  | x :: l, i + 1, j, hi, hj => by
    rw [flat_cons, List.getElem?_append_right (by rw [h.len, Nat.add_mul, Nat.one_mul]; omega), h.len, show (i + 1) * K.size + j - K.size = i * K.size + j by rw [Nat.add_mul, Nat.one_mul]; omega]
    exact h.flat_at l i j (by simpa using hi) hj
/-! ### Cells that are set one behind the other. -/
/-! ### What reads as a list. -/
def R (K : Lay α) (w : World) (v : Value) (l : List α) : Prop :=
  ∃ a cap, v = .slice a l.length cap ∧ l.length ≤ cap ∧ cap ≤ maxLen ∧ (a = none → cap = 0) ∧
    (l ≠ [] → ∃ b o, a = some ⟨b, o, none⟩ ∧ ∀ j u, (K.flat l)[j]? = some u → w.cell? ⟨b, o + j, none⟩ = some u)
theorem R.nil (w : World) : K.R w (.slice none 0 0) [] := ⟨none, 0, rfl, Nat.le_refl _, by simp [maxLen], fun _ => rfl, fun h => absurd rfl h⟩
theorem R.below {w w' : World} {v : Value} {l : List α} (h : K.R w v l) (hb : Below w.heap.size w w') : K.R w' v l := by
  obtain ⟨a, cap, hv, h1, h2, h3, h4⟩ := h
  refine ⟨a, cap, hv, h1, h2, h3, fun hl => ?_⟩
  obtain ⟨b, o, ha, hc⟩ := h4 hl
  exact ⟨b, o, ha, fun j u hj => (hb.cell (World.block_lt_of_cell? w _ (hc j u hj))).trans (hc j u hj)⟩
theorem R.form {w : World} {v : Value} {l : List α} (h : K.R w v l) : ∃ a cap, v = .slice a l.length cap ∧ l.length ≤ 9223372036854775807 := by
  obtain ⟨a, cap, hv, h1, h2, -⟩ := h
  exact ⟨a, cap, hv, by unfold maxLen at h2; omega⟩
theorem R.at {w : World} {a : Option Addr} {n cap : Nat} {l : List α} (h : K.R w (.slice a n cap) l) (hK : K.Ok P) (i : Nat) (hi : i < l.length) :
    ∃ b o, a = some ⟨b, o, none⟩ ∧ n = l.length ∧ b < w.heap.size ∧ ∀ j u, (K.enc l[i])[j]? = some u → w.cell? ⟨b, o + i * K.size + j, none⟩ = some u := by
  obtain ⟨a', cap', hv, h1, h2, h3, h4⟩ := h
  cases hv
  obtain ⟨b, o, ha, hc⟩ := h4 (by intro e; subst e; simp at hi)
  have key : ∀ j u, (K.enc l[i])[j]? = some u → w.cell? ⟨b, o + i * K.size + j, none⟩ = some u := fun j u hj => by
    have hjs : j < K.size := by rw [← hK.len l[i]]; exact (List.getElem?_eq_some_iff.1 hj).1
    rw [Nat.add_assoc]
    exact hc _ _ ((hK.flat_at l i j hi hjs).trans hj)
  have h0 : 0 < (K.enc l[i]).length := by rw [hK.len]; exact hK.pos
  exact ⟨b, o, ha, rfl, World.block_lt_of_cell? w _ (key 0 _ (List.getElem?_eq_getElem h0)), key⟩
theorem Ok.elemOf (hK : K.Ok P) : P.elem K.row = K.elem := by simp [Program.elem, hK.under]
theorem Ok.run_size (hK : K.Ok P) (W : World) : (sizeOf (P.elem K.row)).run P W = .ok K.size W := by
  obtain ⟨i, hi, -, hsize, -⟩ := info_parts hK.info
  rw [hK.elemOf]
  simp [sizeOf, typeInfo, hi, hsize]
theorem Ok.underE (hK : K.Ok P) : P.underlying K.row = some (.slice (P.elem K.row)) := by rw [hK.elemOf]; exact hK.under
/-- 'l[j]', in whatever world. -/
theorem Ok.run_idx (hK : K.Ok P) (b o n cap j : Nat) (h : j < n) (W : World) : (Instr.indexAt K.row (.slice (some ⟨b, o, none⟩) n cap) (.int .i64 (j : Int))).run P W = .ok (.pointer (some ⟨b, o + j * K.size, none⟩)) W := by
  rw [run_indexAt_slice W _ _ _ _ _ _ hK.underE, if_pos ⟨by omega, by omega⟩, hK.run_size]
  simp [Result.andThen, Addr.add_mid]
/-! ### What the call itself makes, from block B on. -/
def O (K : Lay α) (w : World) (B : Nat) (v : Value) (l : List α) : Prop := w.ownsRow B K.elem K.size v l.length (K.flat l)
theorem O.nil (w : World) (B : Nat) : K.O w B (.slice none 0 0) [] := World.ownsRow_nil w B _ _
theorem O.below {w w' : World} {B : Nat} {v : Value} {l : List α} (h : K.O w B v l) (hb : Below w.heap.size w w') : K.O w' B v l := by
  refine ⟨h.1, ?_⟩
  rcases h.2 with h' | ⟨g, cap, cur, h1, hB, h2, h3⟩
  · exact .inl h'
  · exact .inr ⟨g, cap, cur, h1, hB, (hb.block g (Array.getElem?_eq_some_iff.1 h2).1).trans h2, h3⟩
theorem O.row {w : World} {B : Nat} {v : Value} {l : List α} (h : K.O w B v l) : ∀ k, v.ownBlock = some k → B ≤ k := fun k hk => (World.ownsRow.lt h k hk).1
theorem O.r {w : World} {B : Nat} {v : Value} {l : List α} (h : K.O w B v l) : K.R w v l := by
  rcases h.2 with ⟨h', hn⟩ | ⟨g, cap, cur, rfl, hB, h2, h3, h4, h5, h6⟩
  · obtain rfl : l = [] := List.eq_nil_of_length_eq_zero hn
    rw [h']
    exact R.nil w
  · refine ⟨_, cap, rfl, h3, h4, (fun h => by cases h), fun hl => ⟨g, 0, rfl, fun j u hj => ?_⟩⟩
    have hjl : j < l.length * K.size := by
      have h1 := h.1
      rw [← h1]
      exact (List.getElem?_eq_some_iff.1 hj).1
    rw [Nat.zero_add]
    exact (World.ownsRow.cellAt h j hjl).trans hj
/-- One in a new block of its own. -/
theorem R.one (w : World) (_hK : K.Ok P) (x : α) (e : TypeId) (fr : Nat × Nat) : K.R (w.alloc (.cells (K.enc x).toArray e fr)) (.slice (some ⟨w.heap.size, 0, none⟩) 1 1) [x] := by
  refine ⟨some ⟨w.heap.size, 0, none⟩, 1, rfl, Nat.le_refl _, by simp [maxLen], (fun h => by cases h), fun _ => ⟨w.heap.size, 0, rfl, fun j u hj => ?_⟩⟩
  rw [cell_of_row _ w.heap.size (0 + j) _ _ _ (heap_alloc_new w _), Nat.zero_add]
  rw [flat_cons, flat_nil, List.append_nil] at hj
  rw [List.getElem?_toArray]
  exact hj

/-! ### Laws. -/
section
variable {ops : Array Oper} {rest : List Oper} {o : Oper} {a : Act} {w : World} {Q : Exit → Act → World → Prop}
/-- 'append(s, x...)', s the call's own. -/
theorem Ok.append (hK : K.Ok P) (hgd : o.guard = none) (s x : Operand) (ho : o.op = .call { callee := .builtin .append, args := #[s, x], argTypes := #[K.row, K.row] })
    (B : Nat) (v xv : Value) (l m : List α) (hs : a.eval s = v) (hx : a.eval x = xv) (hown : K.O w B v l) (hrb : K.R w xv m) (hl : l.length + m.length ≤ 1000000) (hbase : B ≤ w.heap.size)
    (h : ∀ v' w', K.O w' B v' (l ++ m) → w.grownBy w' v.ownBlock → wpList P ops Q rest (a.put o.dst v') w') : wpList P ops Q (o :: rest) a w := by
  obtain ⟨i, hi, hz, hsize, hby⟩ := info_parts hK.info
  obtain ⟨ad, cap, rfl, h1, h2, h3, h4⟩ := hrb
  cases ad with
  | none =>
    obtain rfl := h3 rfl
    obtain rfl : m = [] := List.eq_nil_of_length_eq_zero (by omega)
    refine wpList_append_own_none hgd s x K.row ho B K.elem i K.size hK.under hi v l.length (K.flat l) hs hown hx ?_
    exact h v w (by simpa using hown) (World.grownBy.refl _ _)
  | some ad =>
    have hb : (l.length + m.length) * K.bytes ≤ 140737488355328 := by
      have := Nat.mul_le_mul hl hK.fit
      omega
    refine wpList_append_own w hgd s x K.row ho B K.elem i K.zero K.size K.bytes hK.under hi hz hsize hby hK.zsize hK.pos v l.length (K.flat l) hs hown ad m.length cap (K.flat m) hx (hK.flat_len m) ?_ (hK.flat_one m) (by unfold maxLen; omega) hb hbase ?_
    · intro j u hj
      obtain ⟨b, o', hao, hc⟩ := h4 (by intro hm; subst hm; simp [flat] at hj)
      cases hao
      rw [Addr.add_mid]
      exact hc j u hj
    · intro v' w' hown' hg _
      refine h v' w' ?_ hg
      unfold O
      rw [List.length_append, flat_append]
      exact hown'
end
end
end Lay

end Go.Proofs.YthbnecdeebmlhaaGreat

namespace Go.Proofs.YthbnecdeebmlhaaGreat
open Go.RowKit

/-- A table: of each slot whether a record lies there, and which. -/
abbrev TabT := Nat → Bool × RecT
def enc6 (y : Bool × RecT) : List Value := .bool y.1 :: rc5 y.2
theorem enc6_len (y : Bool × RecT) : (enc6 y).length = 6 := rfl
theorem enc6_one (y : Bool × RecT) : ∀ v ∈ enc6 y, v.oneCell' = true := by
  intro v hv
  simp only [enc6, rc5, List.mem_cons, List.not_mem_nil, or_false] at hv
  rcases hv with rfl | rfl | rfl | rfl | rfl | rfl <;> rfl
def tabL (TT : TabT) (n : Nat) : List Value := (List.range n).flatMap fun q => enc6 (TT q)
theorem tabL_succ (TT : TabT) (n : Nat) : tabL TT (n + 1) = tabL TT n ++ enc6 (TT n) := by
  unfold tabL
  rw [List.range_succ, List.flatMap_append]
  simp
theorem tabL_len (TT : TabT) : ∀ n, (tabL TT n).length = 6 * n
  | 0 => rfl
  | n + 1 => by rw [tabL_succ, List.length_append, tabL_len TT n, enc6_len]; omega
theorem tabL_at (TT : TabT) : ∀ (n q j : Nat), q < n → j < 6 → (tabL TT n)[6 * q + j]? = (enc6 (TT q))[j]?
  | 0, q, j, h, _ => absurd h (by omega)
  | n + 1, q, j, h, hj => by
    rw [tabL_succ]
    by_cases hq : q < n
    · rw [List.getElem?_append_left (by rw [tabL_len]; omega)]
      exact tabL_at TT n q j hq hj
    · obtain rfl : q = n := by omega
      rw [List.getElem?_append_right (by rw [tabL_len]; omega), tabL_len, show 6 * q + j - 6 * q = j by omega]

/-- Block g is a table. -/
structure TK (w : World) (g : Nat) (TT : TabT) : Prop where
  row : ∃ cs fr, w.heap[g]? = some (.cells cs 33 fr)
  fr : ∀ o, w.frozen? ⟨g, o, none⟩ = false
  cell : ∀ q j, q < 32 → j < 6 → w.cell? ⟨g, 6 * q + j, none⟩ = (enc6 (TT q))[j]?
section
variable {w w' : World} {g : Nat} {TT : TabT}
theorem TK.same (h : TK w g TT) (hb : w'.heap[g]? = w.heap[g]?) : TK w' g TT := by
  obtain ⟨cs, fr, hr⟩ := h.row
  refine ⟨⟨cs, fr, hb.trans hr⟩, fun o => ?_, fun q j hq hj => (World.cell?_of_block (w := w) (a := ⟨g, 6 * q + j, none⟩) hb).trans (h.cell q j hq hj)⟩
  have e := h.fr o
  unfold World.frozen? at e ⊢
  simp only [] at e ⊢
  rw [hb]
  exact e
theorem TK.lt (h : TK w g TT) : g < w.heap.size := by obtain ⟨cs, fr, hr⟩ := h.row; exact (Array.getElem?_eq_some_iff.1 hr).1
theorem TK.below (h : TK w g TT) (hb : Below w.heap.size w w') : TK w' g TT := h.same (hb.block g h.lt)
theorem TK.at (h : TK w g TT) {b s : Nat} (hb : b < 8) (hs : s < 4) : w.cell? ⟨g, 24 * b + 6 * s, none⟩ = some (.bool (TT (4 * b + s)).1) ∧ w.cell? ⟨g, 24 * b + 6 * s + 1, none⟩ = some (.string (TT (4 * b + s)).2.1) ∧ w.cell? ⟨g, 24 * b + 6 * s + 2, none⟩ = some (.bool (TT (4 * b + s)).2.2.1) ∧ w.cell? ⟨g, 24 * b + 6 * s + 3, none⟩ = some (.int .i64 (TT (4 * b + s)).2.2.2.1) ∧ w.cell? ⟨g, 24 * b + 6 * s + 4, none⟩ = some (.int .i64 (TT (4 * b + s)).2.2.2.2.1) ∧ w.cell? ⟨g, 24 * b + 6 * s + 5, none⟩ = some (.string (TT (4 * b + s)).2.2.2.2.2) := by
  have c := fun j hj => h.cell (4 * b + s) j (by omega) hj
  rw [show 6 * (4 * b + s) = 24 * b + 6 * s by omega] at c
  exact ⟨c 0 (by omega), c 1 (by omega), c 2 (by omega), c 3 (by omega), c 4 (by omega), c 5 (by omega)⟩
theorem TK.range (h : TK w g TT) : w.rangeAt g 0 (tabL TT 32) := by
  intro k v hv
  have hk : k < (tabL TT 32).length := (List.getElem?_eq_some_iff.1 hv).1
  rw [tabL_len] at hk
  have e := tabL_at TT 32 (k / 6) (k % 6) (by omega) (by omega)
  rw [show 6 * (k / 6) + k % 6 = k by omega, hv] at e
  have c := h.cell (k / 6) (k % 6) (by omega) (by omega)
  rw [show 6 * (k / 6) + k % 6 = k by omega] at c
  rw [Nat.zero_add, c]
  exact e.symm
theorem TK.new (w : World) (TT : TabT) : TK (w.alloc (.cells (tabL TT 32).toArray 33)) w.heap.size TT := by
  have hh := heap_alloc_new w (.cells (tabL TT 32).toArray 33)
  refine ⟨⟨_, _, hh⟩, fun o => frozen_of_row _ _ _ _ _ hh, fun q j hq hj => ?_⟩
  rw [cell_of_row _ _ _ _ _ _ hh, List.getElem?_toArray]
  exact tabL_at TT 32 q j hq hj
theorem TK.there (h : TK w g TT) {q : Nat} (hq : q < 32) : w.there g (6 * q) 6 := fun j hj => by
  refine ⟨?_, h.fr _⟩
  rw [h.cell q j hq hj, List.getElem?_eq_getElem (show j < (enc6 (TT q)).length from hj)]
  rfl
def setT (TT : TabT) (q : Nat) (y : Bool × RecT) : TabT := fun k => if k = q then y else TT k
theorem setCells_type : ∀ (vs : List Value) (w : World) (b o : Nat) {t : TypeId}, (∃ cs fr, w.heap[b]? = some (.cells cs t fr)) → ∃ cs fr, (w.setCells b o vs).heap[b]? = some (.cells cs t fr)
  | [], w, b, o, _, h => h
  | v :: r, w, b, o, t, h => by
    rw [World.setCells]
    refine setCells_type r _ _ _ ?_
    obtain ⟨cs, fr, h⟩ := h
    unfold World.setCell
    rw [Array.getElem?_modify, if_pos rfl, h]
    exact ⟨_, _, rfl⟩
/-- A slot is stored. -/
theorem TK.set (h : TK w g TT) {q : Nat} (hq : q < 32) (y : Bool × RecT) : TK (w.setCells g (6 * q) (enc6 y)) g (setT TT q y) := by
  refine ⟨setCells_type _ _ _ _ h.row, fun o => by rw [World.frozen?_setCells]; exact h.fr o, fun k j hk hj => ?_⟩
  unfold setT
  by_cases e : k = q
  · subst e
    rw [if_pos rfl]
    have := World.cell?_setCells_in g (enc6 y) (6 * k) w (fun i hi => by
      rw [h.cell k i hk hi, List.getElem?_eq_getElem (show i < (enc6 (TT k)).length from hi)]
      rfl) j hj
    rw [this]
    exact (List.getElem?_eq_getElem hj).symm
  · rw [if_neg e]
    rw [World.cell?_setCells_out g (enc6 y) (6 * q) w ⟨g, 6 * k + j, none⟩ (fun _ hh => ?_)]
    · exact h.cell k j hk hj
    · simp only [enc6_len] at hh ⊢
      omega
end
theorem idxT (g b : Nat) (hb : b < 8) (W : World) : (Instr.indexAt 33 (.pointer (some ⟨g, 0, none⟩)) (.int .i64 (b : Int))).run Tryz.prog W = .ok (.pointer (some ⟨g, 24 * b, none⟩)) W := by
  have hu : Tryz.prog.underlying 33 = some (.array 8 31) := by kernel_rfl
  have hs : (Tryz.prog.info? 31).map (fun i => i.size) = some 24 := by kernel_rfl
  have h8 : ¬ 8 ≤ b := by omega
  have h8' : (b : Int) < 8 := by omega
  cases hi : Tryz.prog.info? 31 with
  | none => rw [hi] at hs; cases hs
  | some i =>
    rw [hi] at hs
    have hs' : i.size = 24 := by simpa using hs
    simp [Instr.indexAt, run_underlying hu, Instr.sureAddr, asIntOf, h8, sizeOf, typeInfo, hi, hs', Result.andThen, Addr.add_mid, Nat.mul_comm]
theorem idxT2 (g o s : Nat) (hs4 : s < 4) (W : World) : (Instr.indexAt 31 (.pointer (some ⟨g, o, none⟩)) (.int .i64 (s : Int))).run Tryz.prog W = .ok (.pointer (some ⟨g, o + 6 * s, none⟩)) W := by
  have hu : Tryz.prog.underlying 31 = some (.array 4 30) := by kernel_rfl
  have hs : (Tryz.prog.info? 30).map (fun i => i.size) = some 6 := by kernel_rfl
  have h8 : ¬ 4 ≤ s := by omega
  have h8' : (s : Int) < 4 := by omega
  cases hi : Tryz.prog.info? 30 with
  | none => rw [hi] at hs; cases hs
  | some i =>
    rw [hi] at hs
    have hs' : i.size = 6 := by simpa using hs
    simp [Instr.indexAt, run_underlying hu, Instr.sureAddr, asIntOf, h8, sizeOf, typeInfo, hi, hs', Result.andThen, Addr.add_mid, Nat.mul_comm]
theorem infoT : (Tryz.prog.info? 33).map (fun i => (i.zero, i.size)) = some (some (.agg (tabL (fun _ => (false, nullR)) 32).toArray), 192) := by kernel_rfl
theorem zero_tab (W : World) : (zeroValue 33).run Tryz.prog W = .ok (.agg (tabL (fun _ => (false, nullR)) 32).toArray) W := by
  have h := infoT
  cases hi : Tryz.prog.info? 33 with
  | none => rw [hi] at h; cases h
  | some i =>
    rw [hi] at h
    simp only [Option.map_some, Option.some.injEq, Prod.mk.injEq] at h
    simp [zeroValue, typeInfo, hi, h.1]
theorem sizeTab (TT : TabT) : (Tryz.prog.info? 33).map (·.size) = some (tabL TT 32).length := by
  rw [tabL_len]
  kernel_rfl

/-! ### Which table may be; its records. -/
def hasT (TT : TabT) (q : Nat) : Option RecT := if (TT q).1 then some (TT q).2 else none
def keysT (TT : TabT) (n : Nat) : List ByteArray := ((List.range n).filterMap (hasT TT)).map Prod.fst
def okSlot (TT : TabT) (q : Nat) : Bool :=
  if (TT q).1 then mayT (TT q).2 && (q / 4 == firstN (hR (TT q).2) || q / 4 == othN (firstN (hR (TT q).2)) (tagN (hR (TT q).2))) && !(keysT TT q).any fun k => decide (k = (TT q).2.1)
  else decide ((TT q).2 = nullR)
def okTo (TT : TabT) (n : Nat) : Bool := (List.range n).all (okSlot TT)
theorem okTo_succ (TT : TabT) (n : Nat) : okTo TT (n + 1) = (okTo TT n && okSlot TT n) := by unfold okTo; rw [List.range_succ, List.all_append]; simp
theorem okTo_bad {TT : TabT} {q n : Nat} (h : okSlot TT q = false) (hq : q < n) : okTo TT n = false := by
  unfold okTo
  rw [List.all_eq_false]
  exact ⟨q, List.mem_range.2 hq, by simp [h]⟩
theorem keysT_succ (TT : TabT) (n : Nat) : keysT TT (n + 1) = keysT TT n ++ (if (TT n).1 then [(TT n).2.1] else []) := by
  unfold keysT hasT
  rw [List.range_succ, List.filterMap_append, List.map_append]
  cases h : (TT n).1 <;> simp [h]
theorem keysT_len (TT : TabT) : ∀ n, (keysT TT n).length ≤ n
  | 0 => by simp [keysT]
  | n + 1 => by
    have := keysT_len TT n
    rw [keysT_succ, List.length_append]
    split <;> simp <;> omega
def recsT (TT : TabT) (n : Nat) : List RecT := (List.range n).filterMap (hasT TT)
theorem recsT_succ (TT : TabT) (n : Nat) : recsT TT (n + 1) = recsT TT n ++ (if (TT n).1 then [(TT n).2] else []) := by
  unfold recsT hasT
  rw [List.range_succ, List.filterMap_append]
  cases h : (TT n).1 <;> simp [h]
theorem recsT_len (TT : TabT) : ∀ n, (recsT TT n).length ≤ n
  | 0 => by simp [recsT]
  | n + 1 => by
    have := recsT_len TT n
    rw [recsT_succ, List.length_append]
    split <;> simp <;> omega

end Go.Proofs.YthbnecdeebmlhaaGreat

namespace Go.Proofs.YthbnecdeebmlhaaGreat
open Go.RowKit

/-- Block g is a table. -/
structure TO (w : World) (g : Nat) (TT : TabT) : Prop where
  row : ∃ cs fr, w.heap[g]? = some (.cells cs 43 fr)
  fr : ∀ o, w.frozen? ⟨g, o, none⟩ = false
  cell : ∀ q j, q < 32 → j < 6 → w.cell? ⟨g, 6 * q + j, none⟩ = (enc6 (TT q))[j]?
section
variable {w w' : World} {g : Nat} {TT : TabT}
theorem TO.same (h : TO w g TT) (hb : w'.heap[g]? = w.heap[g]?) : TO w' g TT := by
  obtain ⟨cs, fr, hr⟩ := h.row
  refine ⟨⟨cs, fr, hb.trans hr⟩, fun o => ?_, fun q j hq hj => (World.cell?_of_block (w := w) (a := ⟨g, 6 * q + j, none⟩) hb).trans (h.cell q j hq hj)⟩
  have e := h.fr o
  unfold World.frozen? at e ⊢
  simp only [] at e ⊢
  rw [hb]
  exact e
theorem TO.lt (h : TO w g TT) : g < w.heap.size := by obtain ⟨cs, fr, hr⟩ := h.row; exact (Array.getElem?_eq_some_iff.1 hr).1
theorem TO.below (h : TO w g TT) (hb : Below w.heap.size w w') : TO w' g TT := h.same (hb.block g h.lt)
theorem TO.at (h : TO w g TT) {b s : Nat} (hb : b < 8) (hs : s < 4) : w.cell? ⟨g, 24 * b + 6 * s, none⟩ = some (.bool (TT (4 * b + s)).1) ∧ w.cell? ⟨g, 24 * b + 6 * s + 1, none⟩ = some (.string (TT (4 * b + s)).2.1) ∧ w.cell? ⟨g, 24 * b + 6 * s + 2, none⟩ = some (.bool (TT (4 * b + s)).2.2.1) ∧ w.cell? ⟨g, 24 * b + 6 * s + 3, none⟩ = some (.int .i64 (TT (4 * b + s)).2.2.2.1) ∧ w.cell? ⟨g, 24 * b + 6 * s + 4, none⟩ = some (.int .i64 (TT (4 * b + s)).2.2.2.2.1) ∧ w.cell? ⟨g, 24 * b + 6 * s + 5, none⟩ = some (.string (TT (4 * b + s)).2.2.2.2.2) := by
  have c := fun j hj => h.cell (4 * b + s) j (by omega) hj
  rw [show 6 * (4 * b + s) = 24 * b + 6 * s by omega] at c
  exact ⟨c 0 (by omega), c 1 (by omega), c 2 (by omega), c 3 (by omega), c 4 (by omega), c 5 (by omega)⟩
theorem TO.range (h : TO w g TT) : w.rangeAt g 0 (tabL TT 32) := by
  intro k v hv
  have hk : k < (tabL TT 32).length := (List.getElem?_eq_some_iff.1 hv).1
  rw [tabL_len] at hk
  have e := tabL_at TT 32 (k / 6) (k % 6) (by omega) (by omega)
  rw [show 6 * (k / 6) + k % 6 = k by omega, hv] at e
  have c := h.cell (k / 6) (k % 6) (by omega) (by omega)
  rw [show 6 * (k / 6) + k % 6 = k by omega] at c
  rw [Nat.zero_add, c]
  exact e.symm
theorem TO.new (w : World) (TT : TabT) : TO (w.alloc (.cells (tabL TT 32).toArray 43)) w.heap.size TT := by
  have hh := heap_alloc_new w (.cells (tabL TT 32).toArray 43)
  refine ⟨⟨_, _, hh⟩, fun o => frozen_of_row _ _ _ _ _ hh, fun q j hq hj => ?_⟩
  rw [cell_of_row _ _ _ _ _ _ hh, List.getElem?_toArray]
  exact tabL_at TT 32 q j hq hj
theorem TO.there (h : TO w g TT) {q : Nat} (hq : q < 32) : w.there g (6 * q) 6 := fun j hj => by
  refine ⟨?_, h.fr _⟩
  rw [h.cell q j hq hj, List.getElem?_eq_getElem (show j < (enc6 (TT q)).length from hj)]
  rfl
/-- A slot of it is stored. -/
theorem TO.set (h : TO w g TT) {q : Nat} (hq : q < 32) (y : Bool × RecT) : TO (w.setCells g (6 * q) (enc6 y)) g (setT TT q y) := by
  refine ⟨setCells_type _ _ _ _ h.row, fun o => by rw [World.frozen?_setCells]; exact h.fr o, fun k j hk hj => ?_⟩
  unfold setT
  by_cases e : k = q
  · subst e
    rw [if_pos rfl]
    have := World.cell?_setCells_in g (enc6 y) (6 * k) w (fun i hi => by
      rw [h.cell k i hk hi, List.getElem?_eq_getElem (show i < (enc6 (TT k)).length from hi)]
      rfl) j hj
    rw [this]
    exact (List.getElem?_eq_getElem hj).symm
  · rw [if_neg e]
    rw [World.cell?_setCells_out g (enc6 y) (6 * q) w ⟨g, 6 * k + j, none⟩ (fun _ hh => ?_)]
    · exact h.cell k j hk hj
    · simp only [enc6_len] at hh ⊢
      omega
end
theorem idxO (g b : Nat) (hb : b < 8) (W : World) : (Instr.indexAt 43 (.pointer (some ⟨g, 0, none⟩)) (.int .i64 (b : Int))).run Tryz.prog W = .ok (.pointer (some ⟨g, 24 * b, none⟩)) W := by
  have hu : Tryz.prog.underlying 43 = some (.array 8 41) := by kernel_rfl
  have hs : (Tryz.prog.info? 41).map (fun i => i.size) = some 24 := by kernel_rfl
  have h8 : ¬ 8 ≤ b := by omega
  have h8' : (b : Int) < 8 := by omega
  cases hi : Tryz.prog.info? 41 with
  | none => rw [hi] at hs; cases hs
  | some i =>
    rw [hi] at hs
    have hs' : i.size = 24 := by simpa using hs
    simp [Instr.indexAt, run_underlying hu, Instr.sureAddr, asIntOf, h8, sizeOf, typeInfo, hi, hs', Result.andThen, Addr.add_mid, Nat.mul_comm]
theorem idxO2 (g o s : Nat) (hs4 : s < 4) (W : World) : (Instr.indexAt 41 (.pointer (some ⟨g, o, none⟩)) (.int .i64 (s : Int))).run Tryz.prog W = .ok (.pointer (some ⟨g, o + 6 * s, none⟩)) W := by
  have hu : Tryz.prog.underlying 41 = some (.array 4 40) := by kernel_rfl
  have hs : (Tryz.prog.info? 40).map (fun i => i.size) = some 6 := by kernel_rfl
  have h8 : ¬ 4 ≤ s := by omega
  have h8' : (s : Int) < 4 := by omega
  cases hi : Tryz.prog.info? 40 with
  | none => rw [hi] at hs; cases hs
  | some i =>
    rw [hi] at hs
    have hs' : i.size = 6 := by simpa using hs
    simp [Instr.indexAt, run_underlying hu, Instr.sureAddr, asIntOf, h8, sizeOf, typeInfo, hi, hs', Result.andThen, Addr.add_mid, Nat.mul_comm]
theorem infoO : (Tryz.prog.info? 43).map (fun i => (i.zero, i.size)) = some (some (.agg (tabL (fun _ => (false, nullR)) 32).toArray), 192) := by kernel_rfl
theorem zero_tabO (W : World) : (zeroValue 43).run Tryz.prog W = .ok (.agg (tabL (fun _ => (false, nullR)) 32).toArray) W := by
  have h := infoO
  cases hi : Tryz.prog.info? 43 with
  | none => rw [hi] at h; cases h
  | some i =>
    rw [hi] at h
    simp only [Option.map_some, Option.some.injEq, Prod.mk.injEq] at h
    simp [zeroValue, typeInfo, hi, h.1]
theorem sizeTabO (TT : TabT) : (Tryz.prog.info? 43).map (·.size) = some (tabL TT 32).length := by
  rw [tabL_len]
  kernel_rfl


/-! ### A table's rows, as values. -/
def rowL (TT : TabT) (b : Nat) : List Value := (List.range 4).flatMap fun s => enc6 (TT (4 * b + s))
theorem rowL_len (TT : TabT) (b : Nat) : (rowL TT b).length = 24 := by
  simp [rowL, List.range, List.range.loop, enc6_len]
theorem rowL_at (TT : TabT) (b s j : Nat) (hs : s < 4) (hj : j < 6) : (rowL TT b)[6 * s + j]? = (enc6 (TT (4 * b + s)))[j]? := by
  have := tabL_at (fun q => TT (4 * b + q)) 4 s j hs hj
  unfold tabL at this
  unfold rowL
  exact this
theorem extract_get (A : Array Value) (o n i : Nat) (h : o + n ≤ A.size) (hi : i < n) : (A.extract o (o + n))[i]? = A[o + i]? := by
  rw [Array.getElem?_extract]
  rw [if_pos (by omega)]
theorem tab_row (TT : TabT) (b : Nat) (hb : b < 8) : (tabL TT 32).toArray.extract (b * 24) (b * 24 + 24) = (rowL TT b).toArray := by
  have hl := tabL_len TT 32
  apply Array.ext_getElem?
  intro i
  by_cases hi : i < 24
  · rw [extract_get _ _ _ _ (by rw [List.size_toArray, hl]; omega) hi, List.getElem?_toArray, List.getElem?_toArray]
    have h1 := tabL_at TT 32 (4 * b + i / 6) (i % 6) (by omega) (by omega)
    have h2 := rowL_at TT b (i / 6) (i % 6) (by omega) (by omega)
    rw [show 6 * (4 * b + i / 6) + i % 6 = b * 24 + i by omega] at h1
    rw [show 6 * (i / 6) + i % 6 = i by omega] at h2
    rw [h1, h2]
  · rw [Array.getElem?_eq_none (by simp; omega), Array.getElem?_eq_none (by rw [List.size_toArray, rowL_len]; omega)]
theorem row_slot (TT : TabT) (b s : Nat) (hs : s < 4) : (rowL TT b).toArray.extract (s * 6) (s * 6 + 6) = (enc6 (TT (4 * b + s))).toArray := by
  have hl := rowL_len TT b
  apply Array.ext_getElem?
  intro i
  by_cases hi : i < 6
  · rw [extract_get _ _ _ _ (by rw [List.size_toArray, hl]; omega) hi, List.getElem?_toArray, List.getElem?_toArray]
    have h2 := rowL_at TT b s i hs hi
    rw [show s * 6 + i = 6 * s + i by omega]
    exact h2
  · rw [Array.getElem?_eq_none (by simp; omega), Array.getElem?_eq_none (by rw [List.size_toArray, enc6_len]; omega)]
theorem rowL_one (TT : TabT) (b : Nat) : (rowL TT b).toArray.all (fun x => x.oneCell') = true := by
  rw [Array.all_eq_true_iff_forall_mem]
  intro v hv
  rw [List.mem_toArray] at hv
  unfold rowL at hv
  obtain ⟨s, -, hv⟩ := List.mem_flatMap.1 hv
  exact enc6_one _ v hv
theorem index_row (TT : TabT) (b : Nat) (hb : b < 8) (W : World) : (Instr.index 43 (.agg (tabL TT 32).toArray) (.int .i64 (b : Int))).run Tryz.prog W = .ok (.agg (rowL TT b).toArray) W := by
  have hu : Tryz.prog.underlying 43 = some (.array 8 41) := by kernel_rfl
  have h8 : ¬ 8 ≤ b := by omega
  have hs : (Tryz.prog.info? 41).map (fun i => i.size) = some 24 := by kernel_rfl
  have hr := tab_row TT b hb
  have h8' : (b : Int) < 8 := by omega
  generalize (tabL TT 32).toArray = A at *
  cases hi : Tryz.prog.info? 41 with
  | none => rw [hi] at hs; cases hs
  | some i =>
    rw [hi] at hs
    have hs' : i.size = 24 := by simpa using hs
    simp [Instr.index, part, run_underlying hu, Tryz.isAgg41, asIntOf, h8, sizeOf, typeInfo, hi, hs', Result.andThen, hr]
theorem index_slot (TT : TabT) (b s : Nat) (hs4 : s < 4) (W : World) : (Instr.index 41 (.agg (rowL TT b).toArray) (.int .i64 (s : Int))).run Tryz.prog W = .ok (.agg (enc6 (TT (4 * b + s))).toArray) W := by
  have hu : Tryz.prog.underlying 41 = some (.array 4 40) := by kernel_rfl
  have h8 : ¬ 4 ≤ s := by omega
  have hs : (Tryz.prog.info? 40).map (fun i => i.size) = some 6 := by kernel_rfl
  have hr := row_slot TT b s hs4
  have h8' : (s : Int) < 4 := by omega
  generalize (rowL TT b).toArray = A at *
  cases hi : Tryz.prog.info? 40 with
  | none => rw [hi] at hs; cases hs
  | some i =>
    rw [hi] at hs
    have hs' : i.size = 6 := by simpa using hs
    simp [Instr.index, part, run_underlying hu, Tryz.isAgg40, asIntOf, h8, sizeOf, typeInfo, hi, hs', Result.andThen, hr]
theorem infoR4 : (Tryz.prog.info? 41).map (fun i => (i.zero, i.size)) = some (some (.agg (rowL (fun _ => (false, nullR)) 0).toArray), 24) := by kernel_rfl
theorem zero_row4 (W : World) : (zeroValue 41).run Tryz.prog W = .ok (.agg (rowL (fun _ => (false, nullR)) 0).toArray) W := by
  have h := infoR4
  cases hi : Tryz.prog.info? 41 with
  | none => rw [hi] at h; cases h
  | some i =>
    rw [hi] at h
    simp only [Option.map_some, Option.some.injEq, Prod.mk.injEq] at h
    simp [zeroValue, typeInfo, hi, h.1]
theorem sizeRow4 (TT : TabT) (b : Nat) : (Tryz.prog.info? 41).map (·.size) = some (rowL TT b).toArray.size := by
  rw [List.size_toArray, rowL_len]
  kernel_rfl
end Go.Proofs.YthbnecdeebmlhaaGreat
