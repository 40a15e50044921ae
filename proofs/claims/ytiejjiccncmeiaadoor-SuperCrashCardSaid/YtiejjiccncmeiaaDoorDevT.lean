/-
  The contract of dev's Flush.
-/
import Derived.Test.YtiejjiccncmeiaaDoorDevL
import Derived.Test.YtiejjiccncmeiaaDoorDevW
namespace Go.Proofs.YtiejjiccncmeiaaDoor
open Go.RowKit

theorem sizeArr : (Tryd.prog.info? 55).map (·.size) = some 64 := by kernel_rfl
theorem cells_all (l : List UInt8) : (cells l).toArray.all (·.oneCell') = true := all_oneCell_toArray (cells_one l)

/-- 'x = *p', p the place of an array of 64 bytes. -/
theorem wpList_load64 {ops : Array Oper} {rest : List Oper} {o : Oper} {a : Act} {w : World} {Q : Exit → Act → World → Prop} (hgd : o.guard = none) (x : Operand) (ho : o.op = .load 55 x)
    (b off : Nat) (hx : a.eval x = .pointer (some ⟨b, off, none⟩)) (l : List UInt8) (hl : l.length = 64) (hc : w.rangeAt b off (cells l)) (h : wpList Tryd.prog ops Q rest (a.put o.dst (.agg (cells l).toArray)) w) : wpList Tryd.prog ops Q (o :: rest) a w :=
  wpList_load_mid hgd 55 x ho b off hx (cells l) _ hc Tryd.underlying55 rfl (by rw [sizeArr, cells_length, hl]) h
/-- '*p = x'. -/
theorem wpList_store64 {ops : Array Oper} {rest : List Oper} {o : Oper} {a : Act} {w : World} {Q : Exit → Act → World → Prop} (hgd : o.guard = none) (hd : o.dst = none) (x y : Operand) (ho : o.op = .store 55 x y)
    (b off : Nat) (l : List UInt8) (hx : a.eval x = .pointer (some ⟨b, off, none⟩)) (hy : a.eval y = .agg (cells l).toArray) (hl : l.length = 64) (ht : w.there b off 64) (h : wpList Tryd.prog ops Q rest a (w.setCells b off (cells l))) : wpList Tryd.prog ops Q (o :: rest) a w := by
  have hs : (cells l).toArray.size = 64 := by rw [List.size_toArray, cells_length, hl]
  refine wpList_store_mid hgd 55 x y ho b off (cells l).toArray hx hy (by rw [hs]; exact ht) (by rw [sizeArr, hs]) (cells_all l) ?_
  rw [hd]
  exact h

theorem OwnV.twoAbove {e : TypeId} {w w' : World} {B d g : Nat} {v : Value} {xs : List Value} (h : OwnV e w B v xs) (hk : Two d (some g) w w') (hd : d < B) (hg : g < B) : OwnV e w' B v xs := by
  refine ⟨h.1, ?_⟩
  rcases h.2 with h' | ⟨q, cap, cur, e1, hB, e2, e3⟩
  · exact .inl h'
  · exact .inr ⟨q, cap, cur, e1, hB, (hk.block q (Array.getElem?_eq_some_iff.1 e2).1 (by omega) (by simp; omega)).trans e2, e3⟩

theorem DV.flush1 {w : World} {B d g n : Nat} {S : Nat → Sec} {L : Life} (h : DV w B d g n S L) {i : Nat} (hi : i < n) {s : Sec} (e : S i = s) : DV ((w.setCells g (i * 129 + 64) (cells s.now)).setCell ⟨g, i * 129 + 128, none⟩ (.bool false)) B d g n (upS S i (flSec s)) L := by
  have hne := h.ne
  subst e
  refine (h.rowTo ?_ ((h.row.putKept i hi (S i).now (h.row.whole i hi).1).putLoose i hi false)).congr (fun j _ => ?_)
  · rw [Below.heap_setCell _ _ _ _ (fun e => hne e), setCells_heap_other hne]
  · unfold upS flSec
    by_cases e : j = i <;> simp [e]

set_option maxRecDepth 100000 in
theorem dflush_nil (w : World) : Calls Tryd.prog 30 #[.pointer none] w fun e w' => e = .returned (.int .i64 7) ∧ w = w' := by
  have C := Go.Lib.hid (ddead_nil w)
  go_enter Tryd.func30, Tryd.ntmps30
  go_wp2_with fail
  refine C.out.mono ?_
  rintro e w1 ⟨rfl, rfl⟩
  go_wp2_with fail
  go_ret
  exact ⟨rfl, rfl⟩

section
variable {w : World} {B d g n : Nat} {S : Nat → Sec} {L : Life}
set_option maxRecDepth 100000
theorem dflush_dead (h : DV w B d g n S L) (hd : L.dead = true) : Calls Tryd.prog 30 #[.pointer (some ⟨d, 0, none⟩)] w fun e w' => e = .returned (.int .i64 7) ∧ w = w' := by
  have C := Go.Lib.hid (ddead_c h)
  rw [hd] at C
  clear h hd
  go_enter Tryd.func30, Tryd.ntmps30
  go_wp2_with fail
  refine C.out.mono ?_
  rintro e w1 ⟨rfl, rfl⟩
  go_wp2_with fail
  go_ret
  exact ⟨rfl, rfl⟩
theorem dflush_c (h : DV w B d g n S L) (hd : L.dead = false) (hc : L.calls < 1000000) : Calls Tryd.prog 30 #[.pointer (some ⟨d, 0, none⟩)] w fun e w' => e = .returned (.int .i64 0) ∧ DV w' B d g n (flS S) L.tick ∧ Two d (some g) w w' := by
  have C := Go.Lib.hid (ddead_c h)
  rw [hd] at C
  have CL := Go.Lib.hid (dloose_c h)
  have hlt := Go.Lib.hid h.lt
  have hltg := Go.Lib.hid h.ltg
  have H := Go.Lib.hid h
  have HD := Go.Lib.hid hd
  clear h hd
  go_enter Tryd.func30, Tryd.ntmps30
  go_wp2_with fail
  refine C.out.mono ?_
  rintro e w1 ⟨rfl, rfl⟩
  go_wp2_with fail
  refine CL.out.mono ?_
  rintro e w1 ⟨v, rfl, hown, hb⟩
  have hle := looseL_length_le (lf S) n
  have hn1 := H.out.n1
  obtain ⟨a, cap, rfl, hlen⟩ := hown.rv.form
  rw [zi_length] at hlen hown
  obtain ⟨m, hm⟩ : ∃ m, m = (looseL (lf S) n).length := ⟨_, rfl⟩
  rw [← hm] at hlen hown hle
  have HM := Go.Lib.hid hm; clear hm
  rw [zi_length, ← HM.out]
  go_wp2_with fail
  have hdv1 := H.out.below hb
  have htwo1 := Two.of_below (b := d) (r := some g) hb
  go_loopw [11] (fun c wr => ∃ k : Nat, k ≤ m ∧ c = .int .i64 (k : Int) ∧ DV wr B d g n (flK S k) L ∧ Two d (some g) w1 wr) (fun c _ => m - (intOf c).toNat)
  case atStart => exact ⟨0, by omega, rfl, hdv1.congr (fun j _ => flK_zero S j), Two.refl _ _ _⟩
  case round =>
    obtain ⟨k, hk, rfl, hdv, htwo⟩ := hrel
    by_cases hkm : k < m
    · have hkl : k < (looseL (lf S) n).length := by rw [← HM.out]; exact hkm
      have hown2 := hown.twoAbove htwo hlt.out hltg.out
      obtain ⟨b, o, rfl, hcell, -⟩ := hown2.rv.at k (by rw [zi_length]; exact hkl)
      rw [zi_at .i64 _ k hkl] at hcell
      obtain ⟨i, hi⟩ : ∃ i, i = (looseL (lf S) n)[k] := ⟨_, rfl⟩
      have hin : i < n := by rw [hi]; exact (looseL_get (lf S) n k hkl).1
      have hat : flK S k i = S i := by rw [hi]; exact flK_at S n k hkl
      have hst := Go.Lib.hid (fun j => flK_step S n k hkl j)
      rw [← hi] at hcell
      rw [← hi] at hst
      have HI := Go.Lib.hid hi; clear hi
      have hdv2 := Go.Lib.hid (hdv.flush1 hin hat)
      have c0 := hdv.c0
      have hrn := Go.Lib.hid (hdv.row.sec i hin).now
      rw [hat] at hrn
      have h64 := Go.Lib.hid (hdv.row.whole i hin).1
      rw [hat] at h64
      have hth := Go.Lib.hid (hdv.row.there (i * 129 + 64) 64 (by omega))
      have hcl := (hdv.row.sec i hin).loose
      rw [hat] at hcl
      have f2 := hdv.row.frozen (i * 129 + 128)
      have c2 : (wr.setCells g (i * 129 + 64) (cells (S i).now)).cell? ⟨g, i * 129 + 128, none⟩ = some (.bool (S i).loose) := cell_apart hcl rfl _ _ _ (.inr (.inr (by rw [cells_length, h64.out]; show i * 129 + 64 + 64 ≤ i * 129 + 128; omega)))
      have f2' : (wr.setCells g (i * 129 + 64) (cells (S i).now)).frozen? ⟨g, i * 129 + 128, none⟩ = false := by rw [World.frozen?_setCells]; exact f2
      have hiI : (i : Int) < (n : Int) := by omega
      have hkI : (k : Int) < (m : Int) := by omega
      have HT := Go.Lib.hid htwo
      have hw : (k : Int) + 1 = ((k + 1 : Nat) : Int) := by omega
      have HW := Go.Lib.hid hw
      have HAT := Go.Lib.hid hat
      clear hdv hown2 hcl f2 hw htwo hat hown
      go_wp2_with (first
        | (with_reducible show wpList _ _ _ (⟨some 25, _, _, _, _, _⟩ :: _) _ _; go_must (refine wpList_load64 rfl (.tmp 24) rfl g (i * 129) rfl (S i).now h64.out hrn.out ?_))
        | (with_reducible show wpList _ _ _ (⟨none, Op.store 55 _ _, _, _, _, _⟩ :: _) _ _; go_must (refine wpList_store64 rfl rfl (.tmp 27) (.tmp 25) rfl g (i * 129 + 64) (S i).now rfl rfl h64.out hth.out ?_))
        | fail)
      go_roundw
      case rel => exact ⟨k + 1, by omega, by rw [HW.out], hdv2.out.congr (fun j _ => by rw [hst.out j]), HT.out.cellsR.setR _⟩
      case measure => simp only [intOf]; omega
    · obtain rfl : k = m := by omega
      have hdv' : DV wr B d g n (flS S) L := hdv.congr (fun j hj => by rw [HM.out, flK_all S n j hj])
      have CN := Go.Lib.hid (dcount_c hdv' HD.out hc)
      have HT := Go.Lib.hid htwo
      clear hdv hdv' htwo
      go_wp2_with fail
      refine CN.out.mono ?_
      rintro e w2 ⟨rfl, hd2, ht2⟩
      go_wp2_with fail
      go_ret
      exact ⟨rfl, hd2, (htwo1.trans HT.out).trans ht2⟩
end

end Go.Proofs.YtiejjiccncmeiaaDoor
