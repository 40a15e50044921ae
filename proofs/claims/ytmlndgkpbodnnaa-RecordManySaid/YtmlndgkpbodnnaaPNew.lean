/-
  Package record: contract of Newest.
-/
import Derived.Test.YtmlndgkpbodnnaaFrRec
import Derived.Test.YtmlndgkpbodnnaaMapD
import Derived.Test.YtmlndgkpbodnnaaSortL
import Derived.LoopTactic
import Derived.Carry
namespace Go.Proofs.Ytmlndgkpbodnnaa
open Go.RowKit Go.Op Go.Maps Go.WideMaps

theorem mlaw : Keyed Try.prog 9 := string_keyed Try.underlying9
theorem mzero (w : World) : (zeroValue 3).run Try.prog w = .ok (.int .i64 0) w := by kernel_rfl

theorem grown_then {w w1 w2 : World} {row : Option Nat} (h : w.grownBy w1 row) (hb : Below w1.heap.size w1 w2) : w.grownBy w2 row :=
  ⟨hb.os.trans h.os, hb.tape.trans h.tape, hb.output.trans h.output, Nat.le_trans h.size hb.size, fun k hk hne => (hb.block k (Nat.lt_of_lt_of_le hk h.size)).trans (h.block k hk hne)⟩

/-- A sorted row of keys, as the walk reads it. -/
theorem keys_row {w : World} {B n : Nat} {v : Value} {ks : List (List UInt8)} (hn : ks.length = n) (h : w.ownsRow B 9 1 v n (ks.map Go.Proofs.encStr)) :
    ∃ a cap, v = .slice a n cap ∧ ∀ j (hj : j < ks.length), ∃ g, a = some ⟨g, 0, none⟩ ∧ B ≤ g ∧ w.cell? ⟨g, j, none⟩ = some (.string (str ks[j])) := by
  subst hn
  rcases h.2 with ⟨rfl, hz⟩ | ⟨g, cap, cur, rfl, hB, h1⟩
  · obtain rfl : ks = [] := List.eq_nil_of_length_eq_zero hz
    exact ⟨none, 0, rfl, fun j hj => absurd hj (by simp)⟩
  · refine ⟨_, cap, rfl, fun j hj => ⟨g, rfl, hB, ?_⟩⟩
    rw [World.ownsRow.cellAt h j (by omega), List.getElem?_map, List.getElem?_eq_getElem hj]
    rfl

/-- One record in a new block. -/
theorem rc5_new (W : World) (x : RecT) : ∀ (q : Nat) (u : Value), (rc5 x)[q]? = some u → (W.alloc (.cells #[.string x.1, .bool x.2.1, .int .i64 x.2.2.1, .int .i64 x.2.2.2.1, .string x.2.2.2.2] 25)).cell? ((⟨W.heap.size, 0, none⟩ : Addr).add q) = some u := by
  intro q u h
  have hadd : (⟨W.heap.size, 0, none⟩ : Addr).add q = ⟨W.heap.size, 0 + q, none⟩ := by unfold Addr.add; split <;> simp_all
  rw [hadd, Nat.zero_add]
  rw [cell_of_row _ W.heap.size q _ _ _ (heap_alloc_new W (.cells #[.string x.1, .bool x.2.1, .int .i64 x.2.2.1, .int .i64 x.2.2.2.1, .string x.2.2.2.2] 25))]
  rw [← h]
  unfold rc5
  exact List.getElem?_toArray
theorem rc5_one (x : RecT) : ∀ u ∈ rc5 x, u.oneCell' = true := by
  intro u hu
  simp only [rc5, List.mem_cons, List.not_mem_nil, or_false] at hu
  rcases hu with rfl | rfl | rfl | rfl | rfl <;> rfl
theorem own_snoc {w : World} {B j : Nat} {v : Value} {acc : List RecT} {x : RecT} (hal : acc.length = j) (h : w.ownsRow B 25 5 v (j + 1) (flat5 acc ++ rc5 x)) : OwnRec w B v (acc ++ [x]) := by
  subst hal
  unfold OwnRec
  rw [List.length_append]
  unfold flat5 at *
  rw [List.flatMap_append]
  simpa using h

set_option maxHeartbeats 4000000 in
set_option maxRecDepth 100000 in
theorem pnewest_c (v : Value) (l : List RecT) (w : World) (hv : RS w v l) (hl : l.length ≤ 1000) (hs : ∀ x ∈ l, x.1.size ≤ 1000 ∧ x.2.2.2.2.size ≤ 1000) :
    Calls Try.prog 20 #[v] w fun e w' => ∃ v', e = .returned v' ∧ OwnRec w' w.heap.size v' (newestR l) ∧ Below w.heap.size w w' := by
  obtain ⟨a, cap, rfl, hm⟩ := hv.form
  have HR := Go.Lib.hid hv; clear hv
  have hmm := @run_makeMap Try.prog
  obtain ⟨i5, hi5, hz5, hsz5, hby5⟩ := info_parts info5
  have I5 := Go.Lib.hid (And.intro hi5 (And.intro hz5 (And.intro hsz5 hby5))); clear hi5 hz5 hsz5 hby5
  go_enter Try.func20, Try.ntmps20
  go_wp2_with fail
  go_loopw [12] (fun i wr => ∃ k : Nat, k ≤ l.length ∧ i = .int .i64 (k : Int) ∧ wr.ownsMap Try.prog 9 (plainElem Try.prog 3) w.heap.size k (mapD Unit l k) ∧ Below w.heap.size w wr) (fun i _ => l.length - (intOf i).toNat)
  case atStart => exact ⟨0, Nat.zero_le _, rfl, World.ownsMap_made _ _ _ _, (Below.refl _ _).alloc (Nat.le_refl _) _⟩
  case round =>
    obtain ⟨k, hk, rfl, hown, hbc⟩ := hrel
    by_cases hlt : k < l.length
    · obtain ⟨b, o, rfl, -, hbs, c0, c1, c2, c3, c4⟩ := (HR.out.below hbc).at k hlt
      have hx := (hs l[k] (List.getElem_mem hlt)).1
      have Hst := Go.Lib.hid (mapD_succ (H := Unit) k hlt)
      have hix := run_idx5 b o l.length cap k hlt
      generalize l[k] = x at *
      obtain ⟨kx, gx, ax, nx, sx⟩ := x
      simp only [] at c0 c1 c2 c3 c4 hx Hst
      have hkey : keyOf Try.prog 9 (.string kx) = some (.string kx.data.toList) := keyOf_string_mk Try.underlying9 (by unfold maxLen; omega)
      have hwf : (Lit.int .i64 (k : Int)).wf = true := by
        rw [show (k : Int) = wrap64 (k : Int) from by unfold wrap64; omega]
        exact wrap64_wf _
      have hown2 := hown.alloc (.cells #[.string kx, .bool gx, .int .i64 ax, .int .i64 nx, .string sx] 25)
      have hbc2 := hbc.trans ((below_one wr (.cells #[.string kx, .bool gx, .int .i64 ax, .int .i64 nx, .string sx] 25)).mono hbc.size)
      have Hown := Go.Lib.hid hown2
      have Hk := Go.Lib.hid (And.intro hkey hwf)
      clear hx hown hown2 hkey hwf
      go_wp2_with (first
        | (at_mapUpdate; refine wpList_mapUpdate_own _ rfl _ _ _ 60 rfl 9 3 mlaw Try.underlying60 _ w.heap.size k _ rfl Hown.out (by unfold maxLen; omega) _ _ _ rfl rfl Hk.out.1 _ [] (plainElem_int Try.underlying3 Hk.out.2) ?_; intro w1 hown1 hgrow1)
        | fail)
      rw [← Hst.out] at hown1
      have hbc3 := hbc2.grown hgrow1 hbc2.size (fun j hj => by cases hj; exact Nat.le_refl _)
      clear hgrow1 Hown Hk Hst c0 c1 c2 c3 c4 hbc hbc2 hix
      go_wp2_with fail
      exact ⟨⟨k + 1, by omega, by go_num, hown1, hbc3⟩, by simp only [intOf]; omega⟩
    · obtain rfl : k = l.length := by omega
      have hsz := hown.size_le
      have hlen := fun ty => hown.len Try.underlying60 ty
      have hG0 := hown.lt
      obtain ⟨hnd, hmem⟩ := strKeys_mapD hown mlaw Try.underlying9
      have hat := fun k h => mapD_at (H := Unit) (l := l) k l.length (Nat.le_refl _) h
      have hhas := fun k => mapD_has (H := Unit) (l := l) k l.length (Nat.le_refl _)
      rw [List.take_of_length_le (Nat.le_refl _)] at hat hhas
      have hkl : (strKeys (mapD Unit l l.length)).length = Maps.size (mapD Unit l l.length) := by
        obtain ⟨es, hD, -⟩ := hown.entries mlaw
        rw [hD]
        simp [strKeys, Maps.size]
      have hone := fun (j : Nat) (hj : j < l.length) => hs l[j] (List.getElem_mem hj)
      generalize hD : mapD Unit l l.length = D at *
      obtain ⟨M, hM⟩ : ∃ M, M = Maps.size D := ⟨_, rfl⟩
      rw [← hM] at hlen hsz hkl
      have HM := Go.Lib.hid hM; clear hM
      have Hat := Go.Lib.hid hat; clear hat
      have Hhas := Go.Lib.hid hhas; clear hhas
      have Hmem := Go.Lib.hid hmem; clear hmem
      have Hone := Go.Lib.hid hone; clear hone hs
      have Hkl := Go.Lib.hid hkl; clear hkl
      have Hnd := Go.Lib.hid hnd; clear hnd
      clear hD
      go_wp2_with (first
        | (with_reducible show wpList _ _ _ (⟨some 24, _, _, _, _, _⟩ :: _) _ _; go_loud (refine wpList_make_own _ rfl _ _ 40 rfl w.heap.size 25 i5 _ 5 Try.underlying40 I5.out.1 I5.out.2.1 I5.out.2.2.1 .i64 .i64 _ M rfl rfl rfl (by rw [I5.out.2.2.2]; omega) (by unfold maxLen; omega) hbc.size ?_); intro w2 hrow2 hg2)
        | fail)
      have hbc2 := hbc.grown hg2 hbc.size (fun j hj => by cases hj)
      have hown2 := hown.kept hg2 (by simp)
      have hG2 := (World.ownsRow.lt hrow2 wr.heap.size rfl).2
      have C2 := Go.Lib.hid (sortedk_c w.heap.size l.length D (plainElem Try.prog 3) w2 hown2 (by rw [← HM.out]; unfold maxLen; omega) (by rw [← HM.out]; omega))
      refine (mkeys_c w.heap.size w2).mono ?_
      rintro e w3 ⟨rfl, rfl⟩
      go_wp2_with fail
      refine C2.out.mono ?_
      rintro e w3 ⟨vs, ss, rfl, hp, hks, hb3⟩
      have hnew := newest_of_keys l ss (hp.nodup_iff.2 Hnd.out) (fun k => (hp.mem_iff).trans (Hmem.out k))
      have hml : M = ss.length := Hkl.out.symm.trans hp.length_eq.symm
      have hksl : (ss.mergeSort (fun x y => decide (x ≤ y))).length = M := (List.length_mergeSort ss).trans hml.symm
      have hin : ∀ k ∈ ss.mergeSort (fun x y => decide (x ≤ y)), Maps.has D (.string k) = true := fun k hk => (Hhas.out k).2 ((Hmem.out k).1 (hp.mem_iff.1 ((List.mergeSort_perm ss _).mem_iff.1 hk)))
      rw [← hml] at hks
      have hg3 := grown_then (World.grownBy_alloc w2 (.cells #[.map (some w.heap.size)] 60) none) hb3
      have hown3 := hown2.kept hg3 (by simp)
      have hbc3 := hbc2.grown hg3 hbc2.size (fun j hj => by cases hj)
      have hrec3 : OwnRec w3 w.heap.size (.slice (some ⟨wr.heap.size, 0, none⟩) 0 M) [] := OwnRec.kept (l := []) hrow2 hg3 (.inr (by simp [Value.ownBlock]))
      have hnB : wr.heap.size < (w2.alloc (.cells #[.map (some w.heap.size)] 60)).heap.size := by simp; omega
      generalize ss.mergeSort (fun x y => decide (x ≤ y)) = ks at *
      obtain ⟨a2, cap2, rfl, hrow⟩ := keys_row hksl hks
      have hfit : M ≤ M := Nat.le_refl _
      have Hnew := Go.Lib.hid hnew; clear hnew
      have Hin := Go.Lib.hid hin; clear hin
      have Hrow := Go.Lib.hid hrow; clear hrow
      have Hown3 := Go.Lib.hid hown3; clear hown3
      clear hlen hks hp hb3 hg3 hrow2 hown2 hbc2 hg2 C2 hown hbc hml Hnd Hmem Hhas Hkl hmm hfit
      have hksM := Go.Lib.hid hksl; clear hksl
      generalize wr.heap.size = G0 at *
      go_wp2_with fail
      go_loopw [6, 29] (fun vb i w4 => ∃ j : Nat, j ≤ M ∧ i = .int .i64 (j : Int) ∧ vb = .slice (some ⟨G0, 0, none⟩) j M ∧ OwnRec w4 w.heap.size vb ((ks.take j).map (pickR l)) ∧ w3.grownBy w4 (some G0)) (fun _ i _ => M - (intOf i).toNat)
      case atStart => exact ⟨0, by omega, rfl, rfl, by simpa using hrec3, World.grownBy.refl _ _⟩
      case round =>
        obtain ⟨j, hj, rfl, rfl, hown, hg⟩ := hrel
        by_cases hlt : j < M
        · have hjk : j < ks.length := by rw [hksM.out]; exact hlt
          obtain ⟨g, rfl, hgB, hkc⟩ := Hrow.out j hjk
          have hkc4 := hg.cell hkc (by simp; omega)
          have hown4 := Hown3.out.kept hg (by simp; omega)
          have hb4 := hbc3.grown hg hbc3.size (fun j hj => by cases hj; omega)
          obtain ⟨i, hi, hati, hfind, hkk⟩ := Hat.out ks[j] (Hin.out _ (List.getElem_mem hjk))
          have hones := Hone.out i hi
          have hkeyOf : keyOf Try.prog 9 (.string (str ks[j])) = some (.string ks[j]) := by
            have h := keyOf_string_mk (P := Try.prog) Try.underlying9 (s := str ks[j]) (by
              have h1 := hones.1
              have h2 : ks[j].length = l[i].1.size := by rw [← hkk, keyR_data]; exact Array.length_toList
              rw [str_size, h2]
              unfold maxLen
              omega)
            rw [h]
            simp [str]
          obtain ⟨c, hrun, hatc, -⟩ := hown4.lookup_int mlaw Try.underlying60 Try.underlying3 (mzero _) hkeyOf
          obtain rfl : (i : Int) = c := by
            have h := (hati (.lit (.int .i64 0))).symm.trans hatc
            injection h with h
            injection h
          have hsn : (ks.take (j + 1)).map (pickR l) = (ks.take j).map (pickR l) ++ [l[i]] := by
            rw [List.take_succ_eq_append_getElem hjk, List.map_append]
            unfold pickR
            simp [hfind]
          have hal : ((ks.take j).map (pickR l)).length = j := by rw [List.length_map, List.length_take]; omega
          obtain ⟨b, o, rfl, -, hbs, c0, c1, c2, c3, c4⟩ := (HR.out.below hb4).at i hi
          have hix := run_idx5 b o l.length cap i hi
          have Hsn := Go.Lib.hid hsn; clear hsn
          generalize (ks.take j).map (pickR l) = acc at *
          clear hatc hati hfind hkk hkeyOf
          generalize l[i] = x at *
          obtain ⟨kx, gx, ax, nx, sx⟩ := x
          simp only [] at c0 c1 c2 c3 c4 hones Hsn
          have C1 := Go.Lib.hid fun W => frec_c kx gx ax nx sx W (by omega) (by omega)
          unfold recV at C1
          generalize str ks[j] = kj at *
          have Hown := Go.Lib.hid hown; clear hown hown4
          have hgb := Go.Lib.hid hgB
          clear hones
          go_wp2_with fail
          refine (C1.out _).mono ?_
          rintro e w5 ⟨rfl, hc⟩
          have hg5 := grown_then (grown_then hg hc) (below_one w5 (.cells #[.string kx, .bool gx, .int .i64 ax, .int .i64 nx, .string sx] 25))
          have hown5 := (Hown.out.below hc).below (below_one w5 (.cells #[.string kx, .bool gx, .int .i64 ax, .int .i64 nx, .string sx] 25))
          have hrc := rc5_new w5 (kx, gx, ax, nx, sx)
          simp only [] at hrc
          unfold OwnRec at hown5
          rw [hal] at hown5
          have Hg5 := Go.Lib.hid hg5
          have Hrc := Go.Lib.hid hrc
          have Hown5 := Go.Lib.hid hown5
          clear hg5 hown5 hrc hc hg C1 Hown c0 c1 c2 c3 c4 hkc4 hkc hrun hix hb4
          go_wp2_with (first
            | (with_reducible show wpList _ _ _ (⟨some 42, _, _, _, _, _⟩ :: _) _ _; go_loud (refine wpList_append_fits _ rfl (.tmp 33) (.tmp 41) 40 rfl w.heap.size 25 i5 5 Try.underlying40 I5.out.1 I5.out.2.2.1 G0 j M (flat5 acc) rfl Hown5.out ⟨w5.heap.size, 0, none⟩ 1 1 (rc5 (kx, gx, ax, nx, sx)) rfl rfl Hrc.out (rc5_one _) (by omega) ?_); intro w6 hown6 hg6)
            | fail)
          have hg7 := Hg5.out.trans hg6
          refine ⟨⟨j + 1, by omega, by go_num, rfl, ?_, hg7⟩, by simp only [intOf]; omega⟩
          rw [Hsn.out]
          exact own_snoc hal hown6
        · obtain rfl : j = M := by omega
          rw [List.take_of_length_le (by rw [hksM.out]; omega), Hnew.out] at hown
          have hb4 := hbc3.grown hg hbc3.size (fun j hj => by cases hj; omega)
          go_wp2_with fail
          go_ret
          exact ⟨_, rfl, hown, hb4⟩

end Go.Proofs.Ytmlndgkpbodnnaa
