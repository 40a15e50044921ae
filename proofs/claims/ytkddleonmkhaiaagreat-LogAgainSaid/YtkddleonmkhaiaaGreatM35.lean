/-
  Records that were cut; the reference's May of one.
  Slices of records: contract of the laws' Recs.
  Stage 18: what the laws over records keep: a log, the same records by rising keys in a row of its own.
-/
import Derived.Test.YtkddleonmkhaiaaGreatM25
import Derived.Test.YtkddleonmkhaiaaGreatM12
import Derived.Test.YtkddleonmkhaiaaGreatM08
import Derived.LoopTactic
import Derived.Test.YtkddleonmkhaiaaGreatM32
import Derived.Test.YtkddleonmkhaiaaGreatM34
namespace Go.Proofs.YtkddleonmkhaiaaGreat
open Go.RowKit

def cutR (x : RecT) : RecT := (str ((bl x.1).take 20), x.2.1, x.2.2.1, x.2.2.2.1, str ((bl x.2.2.2.2).take 30))

theorem cut_sizes {l : List RecT} {n : Nat} {x : RecT} (h : x ∈ (l.take n).map cutR) : x.1.size ≤ 20 ∧ x.2.2.2.2.size ≤ 30 := by
  obtain ⟨y, -, rfl⟩ := List.mem_map.1 h
  unfold cutR
  simp only []
  rw [str_size, str_size, List.length_take, List.length_take]
  omega
/-- The reference's May of a record as one letter. -/
theorem rmayT_c (kx : ByteArray) (gx : Bool) (ax nx : Int) (sx : ByteArray) (w : World) (h1 : kx.size ≤ 20) (h2 : sx.size ≤ 30) :
    Calls Tryz.prog 10 #[.agg #[.string kx, .bool gx, .int .i64 ax, .int .i64 nx, .string sx]] w fun e w' => e = .returned (.bool (mayT (kx, gx, ax, nx, sx))) ∧ Below w.heap.size w w' :=
  rmayrec_c kx gx ax nx sx w (by unfold maxLen; omega) (by unfold maxLen; omega)
end Go.Proofs.YtkddleonmkhaiaaGreat

namespace Go.Proofs.YtkddleonmkhaiaaGreat
open Go.RowKit

set_option maxHeartbeats 2000000 in
set_option maxRecDepth 100000 in
theorem recs_c (v : Value) (l : List RecT) (n : Nat) (w : World) (hv : RRec w v l) (hn : n ≤ 1000) :
    Calls Tryz.prog 7 #[v, .int .i64 (n : Int)] w fun e w' => ∃ v', e = .returned v' ∧ OwnRec w' w.heap.size v' ((l.take n).map cutR) ∧ Below w.heap.size w w' := by
  have Hok := Go.Lib.hid hv.ok
  have hrs := hv.rs
  obtain ⟨a, cap, rfl, hm⟩ := hrs.form
  clear hv
  have HR := Go.Lib.hid hrs; clear hrs
  go_enter Tryz.func7, Tryz.ntmps7
  go_wp2_with fail
  go_loopw [5, 6] (fun vb i w2 => ∃ k : Nat, k ≤ l.length ∧ k ≤ n ∧ i = .int .i64 (k : Int) ∧ OwnRec w2 w.heap.size vb ((l.take k).map cutR) ∧ Below w.heap.size w w2) (fun _ i _ => n - (intOf i).toNat)
  case atStart => exact ⟨0, by omega, by omega, rfl, by simpa using OwnRec.nil _ _, Below.refl _ _⟩
  case round =>
    obtain ⟨k, hk, hkn, rfl, hown, hbc⟩ := hrel
    by_cases hlt : k < l.length
    · by_cases hltn : k < n
      · obtain ⟨b, o, rfl, -, hbs, c0, c1, c2, c3, c4⟩ := (HR.out.below hbc).at k hlt
        have ok := Hok.out l[k] (List.getElem_mem hlt)
        have hsn : (l.take (k + 1)).map cutR = (l.take k).map cutR ++ [cutR l[k]] := by rw [List.take_succ_eq_append_getElem hlt, List.map_append]; rfl
        have hml : ((l.take k).map cutR).length ≤ 1000 := by rw [List.length_map, List.length_take]; omega
        generalize l[k] = x at *
        obtain ⟨key, gone, rk, rn, rs⟩ := x
        obtain ⟨ok1, -, -, ok4⟩ := ok
        simp only [] at c0 c1 c2 c3 c4 ok1 ok4
        have C1 := Go.Lib.hid fun W => rcut_c key gone rk rn rs W ok1 ok4
        have hcx : cutR (key, gone, rk, rn, rs) = (str ((bl key).take 20), gone, rk, rn, str ((bl rs).take 30)) := rfl
        rw [hcx] at hsn
        clear hcx
        generalize (l.take k).map cutR = m at *
        generalize hk2 : str ((bl key).take 20) = key2 at *
        generalize hs2 : str ((bl rs).take 30) = s2 at *
        unfold recV at C1
        have Hsn := Go.Lib.hid hsn; clear hsn
        have Hix := Go.Lib.hid (run_idx5 b o l.length cap k hlt)
        clear ok1 ok4 hk2 hs2
        go_wp2_with fail
        refine (C1.out _).mono ?_
        rintro e w2 ⟨rfl, hc⟩
        have hown2 := OwnRec.below (hown.below hc) (below_one w2 (.cells #[.string key2, .bool gone, .int .i64 rk, .int .i64 rn, .string s2] 33))
        have hbc2 := hbc.trans (hc.mono hbc.size)
        have hbc3 := hbc2.trans ((below_one w2 (.cells #[.string key2, .bool gone, .int .i64 rk, .int .i64 rn, .string s2] 33)).mono hbc2.size)
        have hone := RS.one w2 (key2, gone, rk, rn, s2)
        simp only [] at hone
        have hbs := hbc3.size
        clear hc hown hbc c0 c1 c2 c3 c4 Hix C1 hbc2
        go_wp2_with (first
          | (with_reducible show wpList _ _ _ (⟨some 25, _, _, _, _, _⟩ :: _) _ _; go_loud (refine wpList_append_recs rfl (.tmp 18) (.tmp 24) rfl w.heap.size u5 (.slice (some ⟨w2.heap.size, 0, none⟩) 1 1) m [(key2, gone, rk, rn, s2)] rfl rfl hown2 hone (by simp; omega) hbs ?_); intro v4 w4 hown4 hg4; have hbc4 := hbc3.grown hg4 hbs hown2.row)
          | fail)
        rw [← Hsn.out] at hown4
        exact ⟨⟨k + 1, by omega, by omega, by go_num, hown4, hbc4⟩, by simp only [intOf]; omega⟩
      · obtain rfl : k = n := by omega
        go_wp2_with fail
        go_ret
        exact ⟨_, rfl, hown, hbc⟩
    · obtain rfl : k = l.length := by omega
      rw [List.take_of_length_le (Nat.le_refl _)] at hown
      have he : Hid (l.map cutR = (l.take n).map cutR) := by unfold Hid; rw [List.take_of_length_le hkn]
      rw [he.out] at hown
      go_wp2_with fail
      go_ret
      exact ⟨_, rfl, hown, hbc⟩

end Go.Proofs.YtkddleonmkhaiaaGreat

namespace Go.Proofs.YtkddleonmkhaiaaGreat
open Go.RowKit

/-- Records as a log has them. -/
structure GoodL (L : List RecT) (n : Nat) : Prop where
  keys : KeysOk L
  may : ∀ x ∈ L, mayT x = true
  len : L.length ≤ n
theorem GoodL.nil : GoodL [] 0 := ⟨by simp [KeysOk], (fun x h => by cases h), Nat.le_refl _⟩
theorem GoodL.put {L : List RecT} {n : Nat} (h : GoodL L n) (x : RecT) : GoodL (putN L x) (n + 1) := by
  unfold putN
  by_cases hm : (mayT x && roomR L x.1) = true
  · rw [if_pos hm]
    refine ⟨h.keys.put x, fun y hy => ?_, Nat.le_trans (putL_len L x) (Nat.succ_le_succ h.len)⟩
    rcases (mem_put h.keys x y).1 hy with rfl | ⟨hy, -⟩
    · exact (Bool.and_eq_true _ _ ▸ hm).1
    · exact h.may y hy
  · rw [if_neg hm]
    exact ⟨h.keys, h.may, Nat.le_succ_of_le h.len⟩
theorem GoodL.mono {L : List RecT} {n m : Nat} (h : GoodL L n) (hm : n ≤ m) : GoodL L m := ⟨h.keys, h.may, Nat.le_trans h.len hm⟩
theorem GoodL.nlen {L : List RecT} {n : Nat} (h : GoodL L n) : (newestR L).length ≤ n := by rw [newest_len h.keys]; exact h.len
theorem GoodL.nsize {L : List RecT} {n : Nat} (h : GoodL L n) : ∀ x ∈ newestR L, x.1.size ≤ 1000000 := fun x hx => by
  have := mayT_short (h.may x ((newest_mem h.keys x).1 hx))
  omega
theorem putE_bad {L : List RecT} {x : RecT} (hm : mayT x = false) : putE L x = 1 := by unfold putE; simp [hm]
theorem putE_full {L : List RecT} {x : RecT} (hm : mayT x = true) (hr : roomR L x.1 = false) : putE L x = 5 := by unfold putE; simp [hm, hr]
theorem putE_ok {L : List RecT} {x : RecT} (hm : mayT x = true) (hr : roomR L x.1 = true) : putE L x = 0 := by unfold putE; simp [hm, hr]
theorem LG.good {w : World} {B p d : Nat} {v : Value} {L : List RecT} (h : LG w B p d v L) : GoodL L 32 := ⟨h.keys, h.may, h.len⟩
theorem rroomG_c (u : Value) {L : List RecT} {n : Nat} (hg : GoodL L n) (hn : n ≤ 1000) (key : ByteArray) (w : World) (hu : RS w u (newestR L)) (hk : key.size ≤ 20) :
    Calls Tryz.prog 11 #[u, .string key] w fun e w' => e = .returned (.bool (roomR L key)) ∧ Below w.heap.size w w' := by
  have C := rroomR_c u (newestR L) key w hu (by have := hg.nlen; omega) hg.nsize (by omega)
  rw [roomR_newest hg.keys] at C
  exact C
theorem rsetG_c (u : Value) {L : List RecT} {n : Nat} (hg : GoodL L n) (hn : n ≤ 1000) (kx : ByteArray) (gx : Bool) (ax nx : Int) (sx : ByteArray) (hm : mayT (kx, gx, ax, nx, sx) = true) (hr : roomR L kx = true) (w : World) (hu : RS w u (newestR L)) :
    Calls Tryz.prog 13 #[u, .agg #[.string kx, .bool gx, .int .i64 ax, .int .i64 nx, .string sx]] w fun e w' => ∃ v', e = .returned v' ∧ OwnRec w' w.heap.size v' (newestR (putN L (kx, gx, ax, nx, sx))) ∧ Below w.heap.size w w' := by
  have C := rset_c u (newestR L) kx gx ax nx sx w hu (by have := hg.nlen; omega)
  rw [← newest_put hg.keys, ← putN_zero hm hr] at C
  exact C

end Go.Proofs.YtkddleonmkhaiaaGreat
