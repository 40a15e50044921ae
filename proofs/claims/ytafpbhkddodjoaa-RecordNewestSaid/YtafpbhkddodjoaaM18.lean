/-
  What the library's slices.Sorted gives of maps.Keys of a map: its keys, sorted, in a slice of their own (the library's contracts laid at this program; made by gen/SortL.py).
  Package record: contract of Newest.
  The contract of the laws' begun.
-/
import Derived.Shelf.SlGeneric
import Derived.Shelf.SlIter.Nil
import Derived.Shelf.SortM.Plain
import Derived.Shelf.SortM.SortNone
import Derived.Ground.GgzProg
import Derived.Ground.SlgmProg
import Derived.Test.YtafpbhkddodjoaaProg
import Derived.Test.YtafpbhkddodjoaaM16
import Derived.Test.YtafpbhkddodjoaaM17
import Derived.LoopTactic
import Derived.Carry
import Derived.Test.YtafpbhkddodjoaaM12
import Derived.Test.YtafpbhkddodjoaaM15
import Derived.Test.YtafpbhkddodjoaaM08
namespace Go.Proofs.Ytafpbhkddodjoaa
open Go.RowKit Go.Maps Go.Sort Go.Shelf
def keysL_ren : Go.Shelf.Ren := ⟨fun | 7 => 41 | 10 => 55 | n => n, fun | 23 => 60 | 26 => 9 | 3 => 3 | 28 => 64 | 0 => 0 | 27 => 63 | 33 => 47 | 4 => 4 | n => n, fun | n => n⟩
theorem keysL : Go.Proofs.SlLaysZ.n7 Try.prog keysL_ren := {
  mixed := by kernel_rfl
  f7 := ⟨Try.f41.name, by decide, Try.func41.trans (congrArg some (by kernel_rfl))⟩
  f10 := ⟨Try.f55.name, by decide, Try.func55.trans (congrArg some (by kernel_rfl))⟩
  t0 := Try.underlying0
  a0 := Try.isAgg0
  z0 := Try.sizeOf0
  v0 := Try.zeroValue0
  t4 := Try.underlying4
  a4 := Try.isAgg4
  z4 := Try.sizeOf4
  v4 := Try.zeroValue4
  t23 := Try.underlying60
  a23 := Try.isAgg60
  z23 := Try.sizeOf60
  v23 := Try.zeroValue60
  t26 := Try.underlying9
  a26 := Try.isAgg9
  z26 := Try.sizeOf9
  v26 := Try.zeroValue9
  t27 := Try.underlying63
  a27 := Try.isAgg63
  z27 := Try.sizeOf63
  v27 := Try.zeroValue63
  t28 := Try.underlying64
  a28 := Try.isAgg64
  z28 := Try.sizeOf64
  v28 := Try.zeroValue64
  t33 := Try.underlying47
  a33 := Try.isAgg47
  z33 := Try.sizeOf47
  v33 := Try.zeroValue47 }
def sortedL_ren : Go.Shelf.Ren := ⟨fun | 6 => 40 | 8 => 53 | 9 => 54 | 11 => 63 | 13 => 65 | 12 => 64 | 23 => 77 | 24 => 78 | 14 => 68 | 15 => 69 | 16 => 70 | 17 => 71 | 18 => 72 | 19 => 73 | 20 => 74 | 21 => 75 | 22 => 76 | 25 => 80 | 26 => 81 | 27 => 82 | 28 => 83 | 29 => 84 | 30 => 85 | 31 => 87 | n => n, fun | 26 => 9 | 28 => 64 | 24 => 61 | 0 => 0 | 3 => 3 | 37 => 83 | 48 => 99 | 50 => 71 | 4 => 4 | 40 => 91 | 39 => 90 | 45 => 96 | 5 => 5 | 9 => 9 | 51 => 102 | 55 => 106 | 57 => 108 | 58 => 109 | 33 => 47 | n => n, fun | n => n⟩
theorem sortedL : Go.Proofs.SlLaysZ.n6 Try.prog sortedL_ren := {
  mixed := by kernel_rfl
  f6 := ⟨Try.f40.name, by decide, Try.func40.trans (congrArg some (by kernel_rfl))⟩
  f8 := ⟨Try.f53.name, by decide, Try.func53.trans (congrArg some (by kernel_rfl))⟩
  f11 := ⟨Try.f63.name, by decide, Try.func63.trans (congrArg some (by kernel_rfl))⟩
  t0 := Try.underlying0
  a0 := Try.isAgg0
  z0 := Try.sizeOf0
  v0 := Try.zeroValue0
  t24 := Try.underlying61
  a24 := Try.isAgg61
  z24 := Try.sizeOf61
  v24 := Try.zeroValue61
  t26 := Try.underlying9
  a26 := Try.isAgg9
  z26 := Try.sizeOf9
  v26 := Try.zeroValue9
  t28 := Try.underlying64
  a28 := Try.isAgg64
  z28 := Try.sizeOf64
  v28 := Try.zeroValue64
  i26 := by kernel_rfl }
def sortL_ren : Go.Shelf.Ren := ⟨fun | 6 => 54 | 8 => 65 | 9 => 64 | 19 => 77 | 20 => 78 | 21 => 68 | 22 => 69 | 23 => 70 | 24 => 71 | 25 => 72 | 26 => 73 | 27 => 74 | 28 => 75 | 29 => 76 | 36 => 80 | 31 => 81 | 32 => 82 | 37 => 83 | 38 => 84 | 39 => 85 | 41 => 87 | n => n, fun | 27 => 61 | 29 => 9 | 3 => 3 | 32 => 83 | 26 => 61 | 0 => 0 | 44 => 99 | 46 => 71 | 4 => 4 | 36 => 91 | 35 => 90 | 41 => 96 | 5 => 5 | 9 => 9 | 53 => 102 | 57 => 106 | 63 => 108 | 64 => 109 | n => n, fun | n => n⟩
theorem sortL : Go.Proofs.SlLaysM.n6 Try.prog sortL_ren := {
  mixed := by kernel_rfl
  f6 := ⟨Try.f54.name, by decide, Try.func54.trans (congrArg some (by kernel_rfl))⟩
  f8 := Try.func65.trans (congrArg some (by kernel_rfl))
  f9 := ⟨Try.f64.name, by decide, Try.func64.trans (congrArg some (by kernel_rfl))⟩
  f19 := Try.func77.trans (congrArg some (by kernel_rfl))
  f20 := Try.func78.trans (congrArg some (by kernel_rfl))
  f21 := ⟨Try.f68.name, by decide, Try.func68.trans (congrArg some (by kernel_rfl))⟩
  f22 := ⟨Try.f69.name, by decide, Try.func69.trans (congrArg some (by kernel_rfl))⟩
  f23 := ⟨Try.f70.name, by decide, Try.func70.trans (congrArg some (by kernel_rfl))⟩
  f24 := ⟨Try.f71.name, by decide, Try.func71.trans (congrArg some (by kernel_rfl))⟩
  f25 := ⟨Try.f72.name, by decide, Try.func72.trans (congrArg some (by kernel_rfl))⟩
  f26 := ⟨Try.f73.name, by decide, Try.func73.trans (congrArg some (by kernel_rfl))⟩
  f27 := ⟨Try.f74.name, by decide, Try.func74.trans (congrArg some (by kernel_rfl))⟩
  f28 := ⟨Try.f75.name, by decide, Try.func75.trans (congrArg some (by kernel_rfl))⟩
  f29 := ⟨Try.f76.name, by decide, Try.func76.trans (congrArg some (by kernel_rfl))⟩
  f31 := Try.func81.trans (congrArg some (by kernel_rfl))
  f32 := Try.func82.trans (congrArg some (by kernel_rfl))
  f36 := ⟨Try.f80.name, by decide, Try.func80.trans (congrArg some (by kernel_rfl))⟩
  f37 := ⟨Try.f83.name, by decide, Try.func83.trans (congrArg some (by kernel_rfl))⟩
  f38 := ⟨Try.f84.name, by decide, Try.func84.trans (congrArg some (by kernel_rfl))⟩
  f39 := ⟨Try.f85.name, by decide, Try.func85.trans (congrArg some (by kernel_rfl))⟩
  f41 := ⟨Try.f87.name, by decide, Try.func87.trans (congrArg some (by kernel_rfl))⟩
  t0 := Try.underlying0
  a0 := Try.isAgg0
  z0 := Try.sizeOf0
  v0 := Try.zeroValue0
  t3 := Try.underlying3
  a3 := Try.isAgg3
  z3 := Try.sizeOf3
  v3 := Try.zeroValue3
  t4 := Try.underlying4
  a4 := Try.isAgg4
  z4 := Try.sizeOf4
  v4 := Try.zeroValue4
  t5 := Try.underlying5
  a5 := Try.isAgg5
  z5 := Try.sizeOf5
  v5 := Try.zeroValue5
  t9 := Try.underlying9
  a9 := Try.isAgg9
  z9 := Try.sizeOf9
  v9 := Try.zeroValue9
  t26 := Try.underlying61
  a26 := Try.isAgg61
  z26 := Try.sizeOf61
  v26 := Try.zeroValue61
  t27 := Try.underlying61
  a27 := Try.isAgg61
  z27 := Try.sizeOf61
  v27 := Try.zeroValue61
  t29 := Try.underlying9
  a29 := Try.isAgg9
  z29 := Try.sizeOf9
  v29 := Try.zeroValue9
  t32 := Try.underlying83
  a32 := Try.isAgg83
  z32 := Try.sizeOf83
  v32 := Try.zeroValue83
  t35 := Try.underlying90
  a35 := Try.isAgg90
  z35 := Try.sizeOf90
  v35 := Try.zeroValue90
  t36 := Try.underlying91
  a36 := Try.isAgg91
  z36 := Try.sizeOf91
  v36 := Try.zeroValue91
  t41 := Try.underlying96
  a41 := Try.isAgg96
  z41 := Try.sizeOf96
  v41 := Try.zeroValue96
  t44 := Try.underlying99
  a44 := Try.isAgg99
  z44 := Try.sizeOf99
  v44 := Try.zeroValue99
  t46 := Try.underlying71
  a46 := Try.isAgg71
  z46 := Try.sizeOf71
  v46 := Try.zeroValue71
  t53 := Try.underlying102
  a53 := Try.isAgg102
  z53 := Try.sizeOf102
  v53 := Try.zeroValue102
  t57 := Try.underlying106
  a57 := Try.isAgg106
  z57 := Try.sizeOf106
  v57 := Try.zeroValue106
  t63 := Try.underlying108
  a63 := Try.isAgg108
  z63 := Try.sizeOf108
  v63 := Try.zeroValue108
  t64 := Try.underlying109
  a64 := Try.isAgg109
  z64 := Try.sizeOf109
  v64 := Try.zeroValue109 }

theorem sorts_any (m : Nat) : AnyZ.SortsIn Try.prog sortedL_ren Fence.wide m :=
  ⟨fun blk off cap ss W hH hblk hsz => callsIn_wide.2 (AnyM.slices_Sort_string sortL blk off cap ss W hH hblk hsz),
   fun p cap W => callsIn_wide.2 (AnyM.slices_Sort_string_none sortL p cap W)⟩

/-- maps.Keys: a function over a new block that holds the map. -/
theorem mkeys_c (b : Nat) (W : World) : Calls Try.prog 41 #[.map (some b)] W fun e w' => e = .returned (.func (.func 55) #[] #[.pointer (some ⟨W.heap.size, 0, none⟩)]) ∧ w' = W.alloc (.cells #[.map (some b)] 60) :=
  callsIn_wide.1 (AnyZ.keys_in keysL Fence.wide 5 trivial rfl (some b) W)

set_option maxHeartbeats 1000000 in
/-- slices.Sorted of what maps.Keys answered. -/
theorem sortedk_c {H : Type} (b nn : Nat) (D0 : DataW H) (R : Value → Option (DataW H × List MemPlace)) (w : World) (hown : w.ownsMap Try.prog 9 R b nn D0) (hmax : Maps.size D0 ≤ maxLen) (hbytes : Maps.size D0 * 16 ≤ 140737488355328) :
    Calls Try.prog 40 #[.func (.func 55) #[] #[.pointer (some ⟨w.heap.size, 0, none⟩)]] (w.alloc (.cells #[.map (some b)] 60)) fun e w' => ∃ (v : Value) (ss : List (List UInt8)), e = .returned v ∧ ss.Perm (strKeys D0) ∧
      w'.ownsRow (w.alloc (.cells #[.map (some b)] 60)).heap.size 9 1 v ss.length ((ss.mergeSort (fun x y => decide (x ≤ y))).map encStr) ∧ Below (w.alloc (.cells #[.map (some b)] 60)).heap.size (w.alloc (.cells #[.map (some b)] 60)) w' := by
  have hbl := hown.lt
  have hseq : SeqGives Fence.wide 2 Try.prog 55 #[.pointer (some ⟨w.heap.size, 0, none⟩)] encStr (fun ss => ss.Perm (strKeys D0)) (Maps.size D0) (w.alloc (.cells #[.map (some b)] 60)) :=
    AnyZ.keys_gives (ρ := keysL_ren) { keysL with } Fence.wide _ trivial rfl (by omega) w.heap.size b nn D0 _ (by simp) (by simp) (by
      obtain ⟨es, clock, hb, Ft, hs, hD⟩ := hown
      exact ⟨es, clock, (Below.heap_alloc _ _ b hbl).trans hb, Ft, hs, hD⟩)
  have h := AnyZ.sorted_in sortedL Fence.wide 5 trivial trivial trivial trivial rfl (by omega) (sorts_any _) (enters_of Try.func54 (by kernel_rfl) rfl) 55 #[.pointer (some ⟨w.heap.size, 0, none⟩)] trivial (enters_of Try.func55 (by kernel_rfl) rfl) _ _ hmax hbytes _ hseq
  refine (callsIn_wide.1 h).mono ?_
  rintro e w' ⟨v, ss, he, hp, hrow, -, hb⟩
  exact ⟨v, ss, he, hp, hrow, hb⟩

end Go.Proofs.Ytafpbhkddodjoaa

namespace Go.Proofs.Ytafpbhkddodjoaa
open Go.RowKit Go.Op Go.Maps Go.WideMaps

theorem mlaw : Keyed Try.prog 9 := string_keyed Try.underlying9
theorem mzero (w : World) : (zeroValue 3).run Try.prog w = .ok (.int .i64 0) w := by kernel_rfl

theorem grown_then {w w1 w2 : World} {row : Option Nat} (h : w.grownBy w1 row) (hb : Below w1.heap.size w1 w2) : w.grownBy w2 row :=
  ⟨hb.os.trans h.os, hb.tape.trans h.tape, hb.output.trans h.output, Nat.le_trans h.size hb.size, fun k hk hne => (hb.block k (Nat.lt_of_lt_of_le hk h.size)).trans (h.block k hk hne)⟩

/-- A sorted row of keys, as the walk reads it. -/
theorem keys_row {w : World} {B n : Nat} {v : Value} {ks : List (List UInt8)} (hn : ks.length = n) (h : w.ownsRow B 9 1 v n (ks.map Go.Proofs.encStr)) :
    ∃ a cap, v = .slice a n cap ∧ ∀ j (hj : j < ks.length), ∃ g, a = some ⟨g, 0, none⟩ ∧ B ≤ g ∧ w.cell? ⟨g, j, none⟩ = some (.string (str ks[j])) := by
  subst hn
  rcases h.2 with ⟨rfl, hz⟩ | ⟨g, cap, cur, rfl, hB, h1⟩
  · obtain rfl : ks = [] := List.eq_nil_of_length_eq_zero hz
    exact ⟨none, 0, rfl, fun j hj => absurd hj (by simp)⟩
  · refine ⟨_, cap, rfl, fun j hj => ⟨g, rfl, hB, ?_⟩⟩
    rw [World.ownsRow.cellAt h j (by omega), List.getElem?_map, List.getElem?_eq_getElem hj]
    rfl

/-- One record in a new block. -/
theorem rc5_new (W : World) (x : RecT) : ∀ (q : Nat) (u : Value), (rc5 x)[q]? = some u → (W.alloc (.cells #[.string x.1, .bool x.2.1, .int .i64 x.2.2.1, .int .i64 x.2.2.2.1, .string x.2.2.2.2] 25)).cell? ((⟨W.heap.size, 0, none⟩ : Addr).add q) = some u := by
  intro q u h
  have hadd : (⟨W.heap.size, 0, none⟩ : Addr).add q = ⟨W.heap.size, 0 + q, none⟩ := by unfold Addr.add; split <;> simp_all
  rw [hadd, Nat.zero_add]
  rw [cell_of_row _ W.heap.size q _ _ _ (heap_alloc_new W (.cells #[.string x.1, .bool x.2.1, .int .i64 x.2.2.1, .int .i64 x.2.2.2.1, .string x.2.2.2.2] 25))]
  rw [← h]
  unfold rc5
  exact List.getElem?_toArray
theorem own_snoc {w : World} {B j : Nat} {v : Value} {acc : List RecT} {x : RecT} (hal : acc.length = j) (h : w.ownsRow B 25 5 v (j + 1) (flat5 acc ++ rc5 x)) : OwnRec w B v (acc ++ [x]) := by
  subst hal
  unfold OwnRec
  rw [List.length_append]
  unfold flat5 at *
  rw [List.flatMap_append]
  simpa using h

set_option maxHeartbeats 4000000 in
set_option maxRecDepth 100000 in
theorem pnewest_c (v : Value) (l : List RecT) (w : World) (hv : RS w v l) (hl : l.length ≤ 1000) (hs : ∀ x ∈ l, x.1.size ≤ 1000 ∧ x.2.2.2.2.size ≤ 1000) :
    Calls Try.prog 20 #[v] w fun e w' => ∃ v', e = .returned v' ∧ OwnRec w' w.heap.size v' (newestR l) ∧ Below w.heap.size w w' := by
  obtain ⟨a, cap, rfl, hm⟩ := hv.form
  have HR := Go.Lib.hid hv; clear hv
  have hmm := @run_makeMap Try.prog
  obtain ⟨i5, hi5, hz5, hsz5, hby5⟩ := info_parts info5
  have I5 := Go.Lib.hid (And.intro hi5 (And.intro hz5 (And.intro hsz5 hby5))); clear hi5 hz5 hsz5 hby5
  go_enter Try.func20, Try.ntmps20
  go_wp2_with fail
  go_loopw [12] (fun i wr => ∃ k : Nat, k ≤ l.length ∧ i = .int .i64 (k : Int) ∧ wr.ownsMap Try.prog 9 (plainElem Try.prog 3) w.heap.size k (mapD Unit l k) ∧ Below w.heap.size w wr) (fun i _ => l.length - (intOf i).toNat)
  case atStart => exact ⟨0, Nat.zero_le _, rfl, World.ownsMap_made _ _ _ _, (Below.refl _ _).alloc (Nat.le_refl _) _⟩
  case round =>
    obtain ⟨k, hk, rfl, hown, hbc⟩ := hrel
    by_cases hlt : k < l.length
    · obtain ⟨b, o, rfl, -, hbs, c0, c1, c2, c3, c4⟩ := (HR.out.below hbc).at k hlt
      have hx := (hs l[k] (List.getElem_mem hlt)).1
      have Hst := Go.Lib.hid (mapD_succ (H := Unit) k hlt)
      have hix := run_idx5 b o l.length cap k hlt
      generalize l[k] = x at *
      obtain ⟨kx, gx, ax, nx, sx⟩ := x
      simp only [] at c0 c1 c2 c3 c4 hx Hst
      have hkey : keyOf Try.prog 9 (.string kx) = some (.string kx.data.toList) := keyOf_string_mk Try.underlying9 (by unfold maxLen; omega)
      have hwf : (Lit.int .i64 (k : Int)).wf = true := by
        rw [show (k : Int) = wrap64 (k : Int) from by unfold wrap64; omega]
        exact wrap64_wf _
      have hown2 := hown.alloc (.cells #[.string kx, .bool gx, .int .i64 ax, .int .i64 nx, .string sx] 25)
      have hbc2 := hbc.trans ((below_one wr (.cells #[.string kx, .bool gx, .int .i64 ax, .int .i64 nx, .string sx] 25)).mono hbc.size)
      have Hown := Go.Lib.hid hown2
      have Hk := Go.Lib.hid (And.intro hkey hwf)
      clear hx hown hown2 hkey hwf
      go_wp2_with (first
        | (at_mapUpdate; refine wpList_mapUpdate_own _ rfl _ _ _ 60 rfl 9 3 mlaw Try.underlying60 _ w.heap.size k _ rfl Hown.out (by unfold maxLen; omega) _ _ _ rfl rfl Hk.out.1 _ [] (plainElem_int Try.underlying3 Hk.out.2) ?_; intro w1 hown1 hgrow1)
        | fail)
      rw [← Hst.out] at hown1
      have hbc3 := hbc2.grown hgrow1 hbc2.size (fun j hj => by cases hj; exact Nat.le_refl _)
      clear hgrow1 Hown Hk Hst c0 c1 c2 c3 c4 hbc hbc2 hix
      go_wp2_with fail
      exact ⟨⟨k + 1, by omega, by go_num, hown1, hbc3⟩, by simp only [intOf]; omega⟩
    · obtain rfl : k = l.length := by omega
      have hsz := hown.size_le
      have hlen := fun ty => hown.len Try.underlying60 ty
      have hG0 := hown.lt
      obtain ⟨hnd, hmem⟩ := strKeys_mapD hown mlaw Try.underlying9
      have hat := fun k h => mapD_at (H := Unit) (l := l) k l.length (Nat.le_refl _) h
      have hhas := fun k => mapD_has (H := Unit) (l := l) k l.length (Nat.le_refl _)
      rw [List.take_of_length_le (Nat.le_refl _)] at hat hhas
      have hkl : (strKeys (mapD Unit l l.length)).length = Maps.size (mapD Unit l l.length) := by
        obtain ⟨es, hD, -⟩ := hown.entries mlaw
        rw [hD]
        simp [strKeys, Maps.size]
      have hone := fun (j : Nat) (hj : j < l.length) => hs l[j] (List.getElem_mem hj)
      generalize hD : mapD Unit l l.length = D at *
      obtain ⟨M, hM⟩ : ∃ M, M = Maps.size D := ⟨_, rfl⟩
      rw [← hM] at hlen hsz hkl
      have HM := Go.Lib.hid hM; clear hM
      have Hat := Go.Lib.hid hat; clear hat
      have Hhas := Go.Lib.hid hhas; clear hhas
      have Hmem := Go.Lib.hid hmem; clear hmem
      have Hone := Go.Lib.hid hone; clear hone hs
      have Hkl := Go.Lib.hid hkl; clear hkl
      have Hnd := Go.Lib.hid hnd; clear hnd
      clear hD
      go_wp2_with (first
        | (with_reducible show wpList _ _ _ (⟨some 24, _, _, _, _, _⟩ :: _) _ _; go_loud (refine wpList_make_own _ rfl _ _ 40 rfl w.heap.size 25 i5 _ 5 Try.underlying40 I5.out.1 I5.out.2.1 I5.out.2.2.1 .i64 .i64 _ M rfl rfl rfl (by rw [I5.out.2.2.2]; omega) (by unfold maxLen; omega) hbc.size ?_); intro w2 hrow2 hg2)
        | fail)
      have hbc2 := hbc.grown hg2 hbc.size (fun j hj => by cases hj)
      have hown2 := hown.kept hg2 (by simp)
      have hG2 := (World.ownsRow.lt hrow2 wr.heap.size rfl).2
      have C2 := Go.Lib.hid (sortedk_c w.heap.size l.length D (plainElem Try.prog 3) w2 hown2 (by rw [← HM.out]; unfold maxLen; omega) (by rw [← HM.out]; omega))
      refine (mkeys_c w.heap.size w2).mono ?_
      rintro e w3 ⟨rfl, rfl⟩
      go_wp2_with fail
      refine C2.out.mono ?_
      rintro e w3 ⟨vs, ss, rfl, hp, hks, hb3⟩
      have hnew := newest_of_keys l ss (hp.nodup_iff.2 Hnd.out) (fun k => (hp.mem_iff).trans (Hmem.out k))
      have hml : M = ss.length := Hkl.out.symm.trans hp.length_eq.symm
      have hksl : (ss.mergeSort (fun x y => decide (x ≤ y))).length = M := (List.length_mergeSort ss).trans hml.symm
      have hin : ∀ k ∈ ss.mergeSort (fun x y => decide (x ≤ y)), Maps.has D (.string k) = true := fun k hk => (Hhas.out k).2 ((Hmem.out k).1 (hp.mem_iff.1 ((List.mergeSort_perm ss _).mem_iff.1 hk)))
      rw [← hml] at hks
      have hg3 := grown_then (World.grownBy_alloc w2 (.cells #[.map (some w.heap.size)] 60) none) hb3
      have hown3 := hown2.kept hg3 (by simp)
      have hbc3 := hbc2.grown hg3 hbc2.size (fun j hj => by cases hj)
      have hrec3 : OwnRec w3 w.heap.size (.slice (some ⟨wr.heap.size, 0, none⟩) 0 M) [] := OwnRec.kept (l := []) hrow2 hg3 (.inr (by simp [Value.ownBlock]))
      have hnB : wr.heap.size < (w2.alloc (.cells #[.map (some w.heap.size)] 60)).heap.size := by simp; omega
      generalize ss.mergeSort (fun x y => decide (x ≤ y)) = ks at *
      obtain ⟨a2, cap2, rfl, hrow⟩ := keys_row hksl hks
      have hfit : M ≤ M := Nat.le_refl _
      have Hnew := Go.Lib.hid hnew; clear hnew
      have Hin := Go.Lib.hid hin; clear hin
      have Hrow := Go.Lib.hid hrow; clear hrow
      have Hown3 := Go.Lib.hid hown3; clear hown3
      clear hlen hks hp hb3 hg3 hrow2 hown2 hbc2 hg2 C2 hown hbc hml Hnd Hmem Hhas Hkl hmm hfit
      have hksM := Go.Lib.hid hksl; clear hksl
      generalize wr.heap.size = G0 at *
      go_wp2_with fail
      go_loopw [6, 29] (fun vb i w4 => ∃ j : Nat, j ≤ M ∧ i = .int .i64 (j : Int) ∧ vb = .slice (some ⟨G0, 0, none⟩) j M ∧ OwnRec w4 w.heap.size vb ((ks.take j).map (pickR l)) ∧ w3.grownBy w4 (some G0)) (fun _ i _ => M - (intOf i).toNat)
      case atStart => exact ⟨0, by omega, rfl, rfl, by simpa using hrec3, World.grownBy.refl _ _⟩
      case round =>
        obtain ⟨j, hj, rfl, rfl, hown, hg⟩ := hrel
        by_cases hlt : j < M
        · have hjk : j < ks.length := by rw [hksM.out]; exact hlt
          obtain ⟨g, rfl, hgB, hkc⟩ := Hrow.out j hjk
          have hkc4 := hg.cell hkc (by simp; omega)
          have hown4 := Hown3.out.kept hg (by simp; omega)
          have hb4 := hbc3.grown hg hbc3.size (fun j hj => by cases hj; omega)
          obtain ⟨i, hi, hati, hfind, hkk⟩ := Hat.out ks[j] (Hin.out _ (List.getElem_mem hjk))
          have hones := Hone.out i hi
          have hkeyOf : keyOf Try.prog 9 (.string (str ks[j])) = some (.string ks[j]) := by
            have h := keyOf_string_mk (P := Try.prog) Try.underlying9 (s := str ks[j]) (by
              have h1 := hones.1
              have h2 : ks[j].length = l[i].1.size := by rw [← hkk, keyR_data]; exact Array.length_toList
              rw [str_size, h2]
              unfold maxLen
              omega)
            rw [h]
            simp [str]
          obtain ⟨c, hrun, hatc, -⟩ := hown4.lookup_int mlaw Try.underlying60 Try.underlying3 (mzero _) hkeyOf
          obtain rfl : (i : Int) = c := by
            have h := (hati (.lit (.int .i64 0))).symm.trans hatc
            injection h with h
            injection h
          have hsn : (ks.take (j + 1)).map (pickR l) = (ks.take j).map (pickR l) ++ [l[i]] := by
            rw [List.take_succ_eq_append_getElem hjk, List.map_append]
            unfold pickR
            simp [hfind]
          have hal : ((ks.take j).map (pickR l)).length = j := by rw [List.length_map, List.length_take]; omega
          obtain ⟨b, o, rfl, -, hbs, c0, c1, c2, c3, c4⟩ := (HR.out.below hb4).at i hi
          have hix := run_idx5 b o l.length cap i hi
          have Hsn := Go.Lib.hid hsn; clear hsn
          generalize (ks.take j).map (pickR l) = acc at *
          clear hatc hati hfind hkk hkeyOf
          generalize l[i] = x at *
          obtain ⟨kx, gx, ax, nx, sx⟩ := x
          simp only [] at c0 c1 c2 c3 c4 hones Hsn
          have C1 := Go.Lib.hid fun W => frec_c kx gx ax nx sx W (by omega) (by omega)
          unfold recV at C1
          generalize str ks[j] = kj at *
          have Hown := Go.Lib.hid hown; clear hown hown4
          have hgb := Go.Lib.hid hgB
          clear hones
          go_wp2_with fail
          refine (C1.out _).mono ?_
          rintro e w5 ⟨rfl, hc⟩
          have hg5 := grown_then (grown_then hg hc) (below_one w5 (.cells #[.string kx, .bool gx, .int .i64 ax, .int .i64 nx, .string sx] 25))
          have hown5 := (Hown.out.below hc).below (below_one w5 (.cells #[.string kx, .bool gx, .int .i64 ax, .int .i64 nx, .string sx] 25))
          have hrc := rc5_new w5 (kx, gx, ax, nx, sx)
          simp only [] at hrc
          unfold OwnRec at hown5
          rw [hal] at hown5
          have Hg5 := Go.Lib.hid hg5
          have Hrc := Go.Lib.hid hrc
          have Hown5 := Go.Lib.hid hown5
          clear hg5 hown5 hrc hc hg C1 Hown c0 c1 c2 c3 c4 hkc4 hkc hrun hix hb4
          go_wp2_with (first
            | (with_reducible show wpList _ _ _ (⟨some 42, _, _, _, _, _⟩ :: _) _ _; go_loud (refine wpList_append_fits _ rfl (.tmp 33) (.tmp 41) 40 rfl w.heap.size 25 i5 5 Try.underlying40 I5.out.1 I5.out.2.2.1 G0 j M (flat5 acc) rfl Hown5.out ⟨w5.heap.size, 0, none⟩ 1 1 (rc5 (kx, gx, ax, nx, sx)) rfl rfl Hrc.out (rc5_one _) (by omega) ?_); intro w6 hown6 hg6)
            | fail)
          have hg7 := Hg5.out.trans hg6
          refine ⟨⟨j + 1, by omega, by go_num, rfl, ?_, hg7⟩, by simp only [intOf]; omega⟩
          rw [Hsn.out]
          exact own_snoc hal hown6
        · obtain rfl : j = M := by omega
          rw [List.take_of_length_le (by rw [hksM.out]; omega), Hnew.out] at hown
          have hb4 := hbc3.grown hg hbc3.size (fun j hj => by cases hj; omega)
          go_wp2_with fail
          go_ret
          exact ⟨_, rfl, hown, hb4⟩

end Go.Proofs.Ytafpbhkddodjoaa

namespace Go.Proofs.Ytafpbhkddodjoaa
open Go.RowKit Go.Op

theorem g10_1 : mayRec (str [97]) false 1 1 (str []) = true := by decide +kernel
theorem g10_2 : mayRec (str [97]) true 0 0 (str []) = true := by decide +kernel
theorem g10_3 : mayRec (str [97]) false 0 0 (str []) = false := by decide +kernel
theorem g10_4 : eqRec (str [97]) false 1 1 (str []) (str [97]) false 1 1 (str []) = true := by decide +kernel
theorem g10_5 : eqRec (str [97]) false 1 1 (str []) (str [97]) true 0 0 (str []) = false := by decide +kernel
theorem g10_6 : recB [97] false 1 1 [] = [2, 97, 2, 2] := by decide +kernel
theorem g10_7 : readB [2, 97, 2, 2, 7] = (([97], false, 1, 1, []), 4, 0) := by
  have := readB_put [97] false 1 1 [] [7] g10_1 (by omega) (by omega)
  rw [g10_6] at this
  exact this
theorem g10_8 : newestR [(⟨#[97]⟩, false, 1, 1, ⟨#[]⟩), (⟨#[48]⟩, true, 0, 0, ⟨#[]⟩), (⟨#[97]⟩, true, 0, 0, ⟨#[]⟩)] = [(⟨#[48]⟩, true, 0, 0, ⟨#[]⟩), (⟨#[97]⟩, true, 0, 0, ⟨#[]⟩)] := by
  simp [newestR, newestK, setGo, keyR, ByteArray.toList_eq, bytesLess]

def r10 : RecT := (⟨#[97]⟩, false, 1, 1, ⟨#[]⟩)
def z10 : RecT := (⟨#[48]⟩, true, 0, 0, ⟨#[]⟩)
def g10 : RecT := (⟨#[97]⟩, true, 0, 0, ⟨#[]⟩)
abbrev q10 (k : ByteArray) (g : Bool) (a b : Int) : Obj := .cells #[.string k, .bool g, .int .i64 a, .int .i64 b, .string ⟨#[]⟩] 25
abbrev q3 : Obj := .cells #[.string ⟨#[97]⟩, .bool false, .int .i64 1, .int .i64 1, .string ⟨#[]⟩, .string ⟨#[48]⟩, .bool true, .int .i64 0, .int .i64 0, .string ⟨#[]⟩, .string ⟨#[97]⟩, .bool true, .int .i64 0, .int .i64 0, .string ⟨#[]⟩] 25
theorem rs3 (w : World) : RS (w.alloc (.cells #[.string ⟨#[97]⟩, .bool false, .int .i64 1, .int .i64 1, .string ⟨#[]⟩, .string ⟨#[48]⟩, .bool true, .int .i64 0, .int .i64 0, .string ⟨#[]⟩, .string ⟨#[97]⟩, .bool true, .int .i64 0, .int .i64 0, .string ⟨#[]⟩] 25)) (.slice (some ⟨w.heap.size, 0, none⟩) 3 3) [r10, z10, g10] := by
  refine ⟨some ⟨w.heap.size, 0, none⟩, 3, rfl, Nat.le_refl _, by simp [maxLen], (fun h => by cases h), fun _ => ⟨w.heap.size, 0, rfl, fun i hi => ?_⟩⟩
  have c := fun j => cell_of_row _ w.heap.size j _ _ _ (heap_alloc_new w (.cells #[.string ⟨#[97]⟩, .bool false, .int .i64 1, .int .i64 1, .string ⟨#[]⟩, .string ⟨#[48]⟩, .bool true, .int .i64 0, .int .i64 0, .string ⟨#[]⟩, .string ⟨#[97]⟩, .bool true, .int .i64 0, .int .i64 0, .string ⟨#[]⟩] 25))
  match i, hi with
  | 0, _ => exact ⟨c 0, c 1, c 2, c 3, c 4⟩
  | 1, _ => exact ⟨c 5, c 6, c 7, c 8, c 9⟩
  | 2, _ => exact ⟨c 10, c 11, c 12, c 13, c 14⟩
  | i + 3, hi => exact absurd (show i + 3 < 3 from hi) (by omega)

set_option maxHeartbeats 1000000 in
set_option maxRecDepth 100000 in
theorem begun_c (w : World) : Calls Try.prog 8 #[] w fun e w' => e = .returned (.bool true) ∧ Below w.heap.size w w' := by
  have c1 := fun W => pput_c (.slice none 0 0) [] [97] false 1 1 [] W (RB.nil _) g10_1 (by omega) (by omega) (by simp)
  have c2 := fun v W (h : RB W v [2, 97, 2, 2, 7]) => pget_c v [2, 97, 2, 2, 7] W h
  have c3 := fun v W (h : RS W v [r10, z10, g10]) => pnewest_c v [r10, z10, g10] W h (by simp) (by intro x hx; simp only [List.mem_cons, List.not_mem_nil, or_false] at hx; rcases hx with rfl | rfl | rfl <;> decide)
  have c4 := fun W => pmay_c ⟨#[97]⟩ false 1 1 ⟨#[]⟩ W (by decide) (by decide)
  have c5 := fun W => pmay_c ⟨#[97]⟩ true 0 0 ⟨#[]⟩ W (by decide) (by decide)
  have c6 := fun W => pmay_c ⟨#[97]⟩ false 0 0 ⟨#[]⟩ W (by decide) (by decide)
  have c7 := fun W => peq_c ⟨#[97]⟩ false 1 1 ⟨#[]⟩ ⟨#[97]⟩ false 1 1 ⟨#[]⟩ W
  have c8 := fun W => peq_c ⟨#[97]⟩ false 1 1 ⟨#[]⟩ ⟨#[97]⟩ true 0 0 ⟨#[]⟩ W
  rw [g10_6] at c1
  rw [g10_7] at c2
  rw [show newestR [r10, z10, g10] = [z10, g10] from g10_8] at c3
  rw [show mayRec ⟨#[97]⟩ false 1 1 ⟨#[]⟩ = true from g10_1] at c4
  rw [show mayRec ⟨#[97]⟩ true 0 0 ⟨#[]⟩ = true from g10_2] at c5
  rw [show mayRec ⟨#[97]⟩ false 0 0 ⟨#[]⟩ = false from g10_3] at c6
  rw [show eqRec ⟨#[97]⟩ false 1 1 ⟨#[]⟩ ⟨#[97]⟩ false 1 1 ⟨#[]⟩ = true from g10_4] at c7
  rw [show eqRec ⟨#[97]⟩ false 1 1 ⟨#[]⟩ ⟨#[97]⟩ true 0 0 ⟨#[]⟩ = false from g10_5] at c8
  unfold rr at c2
  simp only [] at c2
  rw [show str [97] = ⟨#[97]⟩ from rfl, show str [] = ⟨#[]⟩ from rfl] at c1 c2
  unfold recV at c1 c2 c4 c5 c6 c7 c8
  have C1 := Go.Lib.hid c1; clear c1
  have C2 := Go.Lib.hid c2; clear c2
  have C3 := Go.Lib.hid c3; clear c3
  have C4 := Go.Lib.hid c4; clear c4
  have C5 := Go.Lib.hid c5; clear c5
  have C6 := Go.Lib.hid c6; clear c6
  have C7 := Go.Lib.hid c7; clear c7
  have C8 := Go.Lib.hid c8; clear c8
  have hA := two_first w (q10 ⟨#[97]⟩ false 1 1) (q10 ⟨#[97]⟩ true 0 0)
  have hB := heap_alloc2_new w (q10 ⟨#[97]⟩ false 1 1) (q10 ⟨#[97]⟩ true 0 0)
  have hbb := below_two w (q10 ⟨#[97]⟩ false 1 1) (q10 ⟨#[97]⟩ true 0 0)
  go_enter Try.func8, Try.ntmps8
  go_wp2_with fail
  generalize (w.alloc (q10 ⟨#[97]⟩ false 1 1)).alloc (q10 ⟨#[97]⟩ true 0 0) = wa at *
  have hlA := row_lt hA
  have hlB := row_lt hB
  refine (C1.out _).mono ?_
  rintro e w1 ⟨v1, rfl, own1, hc⟩
  have hA := row_kept hA hc
  have hB := row_kept hB hc
  have hbb := hbb.trans (hc.mono hbb.size)
  have hs1 := hc.size
  clear hc
  have own2 := own1.alloc (.cells #[.int .u8 7] 5)
  have hone := RB.lits w1 5 (0, 0) [7] #[.int .u8 7] 1 rfl rfl (by decide)
  have hA := row_kept hA (below_one w1 (.cells #[.int .u8 7] 5))
  have hB := row_kept hB (below_one w1 (.cells #[.int .u8 7] 5))
  have hbb2 := hbb.trans ((below_one w1 (.cells #[.int .u8 7] 5)).mono hbb.size)
  have hs2 := Nat.le_trans hs1 (below_one w1 (.cells #[.int .u8 7] 5)).size
  have hbw := hbb.size
  clear hbb C1
  have hws : w.heap.size ≤ wa.heap.size := by omega
  go_wp2_with (first
    | (with_reducible show wpList _ _ _ (⟨some 14, _, _, _, _, _⟩ :: _) _ _; go_loud (refine wpList_append_RB rfl (.tmp 12) (.tmp 13) 26 rfl wa.heap.size 5 Try.underlying26 info8 v1 (.slice (some ⟨w1.heap.size, 0, none⟩) 1 1) ([] ++ [2, 97, 2, 2]) [7] rfl rfl own2 hone (by simp) hs2 ?_); intro v3 w3 hown3 hg3; have hbb3 := hbb2.grown hg3 (Nat.le_trans hws hs2) (fun k hk => Nat.le_trans hws (own2.row k hk)); have hb3 := grown_below hg3 hs2 own2.row; have hA3 := (hb3.block _ hlA).trans hA; have hB3 := (hb3.block _ hlB).trans hB; have hrb := hown3.rb; clear hg3 hA hB hown3 own2 own1 hb3 hbb2 hone)
    | fail)
  refine (C2.out _ _ hrb).mono ?_
  rintro e w4 ⟨rfl, hc⟩
  have hA := row_kept hA3 hc
  have hB := row_kept hB3 hc
  have hbb := hbb3.trans (hc.mono hbb3.size)
  have hA := row_kept hA (below_one w4 (q10 ⟨#[97]⟩ false 1 1))
  have hB := row_kept hB (below_one w4 (q10 ⟨#[97]⟩ false 1 1))
  have hX := heap_alloc_new w4 (q10 ⟨#[97]⟩ false 1 1)
  have hbb := hbb.trans ((below_one w4 (q10 ⟨#[97]⟩ false 1 1)).mono hbb.size)
  clear hc hA3 hB3 hbb3 C2 hrb
  dsimp only [q10] at hA hB hX hbb
  obtain ⟨x0, x1, x2, x3, x4⟩ := row5 hA
  obtain ⟨y0, y1, y2, y3, y4⟩ := row5 hB
  go_wp2_with fail
  have hsz : (w4.alloc (q10 ⟨#[97]⟩ false 1 1)).heap.size = w4.heap.size + 1 := by simp
  generalize w4.alloc (q10 ⟨#[97]⟩ false 1 1) = wb at *
  have hr3 := rs3 wb
  rw [hsz] at hr3
  have b3 := below_one wb q3
  have hA := row_kept hA b3
  have hB := row_kept hB b3
  have hX := row_kept hX b3
  have hbb := hbb.trans (b3.mono hbb.size)
  clear b3
  refine (C3.out _ _ hr3).mono ?_
  rintro e w5 ⟨v5, rfl, hown5, hc⟩
  have hrs := hown5.rs
  have hA := row_kept hA hc
  have hB := row_kept hB hc
  have hX := row_kept hX hc
  have hbb := hbb.trans (hc.mono hbb.size)
  clear hc hr3 C3 hown5 x0 x1 x2 x3 x4 y0 y1 y2 y3 y4
  obtain ⟨al, cl, rfl, -⟩ := hrs.form
  simp only [List.length_cons, List.length_nil, Nat.zero_add, Nat.reduceAdd] at hrs ⊢
  obtain ⟨x0, x1, x2, x3, x4⟩ := row5 hA
  obtain ⟨y0, y1, y2, y3, y4⟩ := row5 hB
  obtain ⟨-, -, -, z3, -⟩ := row5 hX
  obtain ⟨bl, ol, el, -, -, -, l1, -, -, -⟩ := hrs.at 1 (by decide)
  cases el
  have l1 : w5.cell? ⟨bl, ol + 5 + 1, none⟩ = some (.bool true) := l1
  have HL := Go.Lib.hid fun W (h : RS W (.slice (some ⟨bl, ol, none⟩) 2 cl) [z10, g10]) => (show W.cell? ⟨bl, ol + 5 + 1, none⟩ = some (.bool true) from by obtain ⟨b', o', e', -, -, -, l1, -⟩ := h.at 1 (by decide); cases e'; exact l1)
  have hix : ∀ W : World, (Instr.indexAt 40 (.slice (some ⟨bl, ol, none⟩) 2 cl) (.int .i64 1)).run Try.prog W = .ok (.pointer (some ⟨bl, ol + 5, none⟩)) W := run_idx5 bl ol 2 cl 1 (by omega)
  go_wp2_with fail
  refine (C4.out _).mono ?_
  rintro e w6 ⟨rfl, hc⟩
  have hA := row_kept hA hc
  have hB := row_kept hB hc
  have hX := row_kept hX hc
  have hrs := hrs.below hc
  have hbb := hbb.trans (hc.mono hbb.size)
  clear hc C4 x0 x1 x2 x3 x4 y0 y1 y2 y3 y4 z3 l1
  obtain ⟨x0, x1, x2, x3, x4⟩ := row5 hA
  obtain ⟨y0, y1, y2, y3, y4⟩ := row5 hB
  obtain ⟨-, -, -, z3, -⟩ := row5 hX
  have l1 := HL.out _ hrs
  go_wp2_with fail
  refine (C5.out _).mono ?_
  rintro e w7 ⟨rfl, hc⟩
  have hA := row_kept hA hc
  have hB := row_kept hB hc
  have hX := row_kept hX hc
  have hrs := hrs.below hc
  have hbb := hbb.trans (hc.mono hbb.size)
  clear hc C5 x0 x1 x2 x3 x4 y0 y1 y2 y3 y4 z3 l1
  obtain ⟨x0, x1, x2, x3, x4⟩ := row5 hA
  obtain ⟨y0, y1, y2, y3, y4⟩ := row5 hB
  obtain ⟨-, -, -, z3, -⟩ := row5 hX
  have l1 := HL.out _ hrs
  go_wp2_with fail
  refine (C6.out _).mono ?_
  rintro e w8 ⟨rfl, hc⟩
  have hA := row_kept hA hc
  have hB := row_kept hB hc
  have hX := row_kept hX hc
  have hrs := hrs.below hc
  have hbb := hbb.trans (hc.mono hbb.size)
  clear hc C6 x0 x1 x2 x3 x4 y0 y1 y2 y3 y4 z3 l1
  obtain ⟨x0, x1, x2, x3, x4⟩ := row5 hA
  obtain ⟨y0, y1, y2, y3, y4⟩ := row5 hB
  obtain ⟨-, -, -, z3, -⟩ := row5 hX
  have l1 := HL.out _ hrs
  go_wp2_with fail
  refine (C7.out _).mono ?_
  rintro e w9 ⟨rfl, hc⟩
  have hA := row_kept hA hc
  have hB := row_kept hB hc
  have hX := row_kept hX hc
  have hrs := hrs.below hc
  have hbb := hbb.trans (hc.mono hbb.size)
  clear hc C7 x0 x1 x2 x3 x4 y0 y1 y2 y3 y4 z3 l1
  obtain ⟨x0, x1, x2, x3, x4⟩ := row5 hA
  obtain ⟨y0, y1, y2, y3, y4⟩ := row5 hB
  obtain ⟨-, -, -, z3, -⟩ := row5 hX
  have l1 := HL.out _ hrs
  go_wp2_with fail
  refine (C8.out _).mono ?_
  rintro e w10 ⟨rfl, hc⟩
  have hA := row_kept hA hc
  have hB := row_kept hB hc
  have hX := row_kept hX hc
  have hrs := hrs.below hc
  have hbb := hbb.trans (hc.mono hbb.size)
  clear hc C8 x0 x1 x2 x3 x4 y0 y1 y2 y3 y4 z3 l1
  obtain ⟨x0, x1, x2, x3, x4⟩ := row5 hA
  obtain ⟨y0, y1, y2, y3, y4⟩ := row5 hB
  obtain ⟨-, -, -, z3, -⟩ := row5 hX
  have l1 := HL.out _ hrs
  go_wp2_with fail
  go_ret
  exact ⟨rfl, hbb⟩

end Go.Proofs.Ytafpbhkddodjoaa
