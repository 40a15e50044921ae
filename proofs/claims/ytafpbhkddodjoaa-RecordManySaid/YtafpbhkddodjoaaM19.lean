/-
  Which record may be, of a record as one letter.
  Records that were cut; the reference's May of one.
  Slices of records: contract of the laws' Recs.
-/
import Derived.Test.YtafpbhkddodjoaaM07
import Derived.Test.YtafpbhkddodjoaaM14
import Derived.Test.YtafpbhkddodjoaaM08
import Derived.LoopTactic
namespace Go.Proofs.Ytafpbhkddodjoaa
open Go.RowKit

def mayT (x : RecT) : Bool := mayRec x.1 x.2.1 x.2.2.1 x.2.2.2.1 x.2.2.2.2
/-- What may be is short. -/
theorem mayT_short {x : RecT} (h : mayT x = true) : x.1.size ≤ 16 ∧ x.2.2.2.2.size ≤ 24 := by
  obtain ⟨key, gone, k, n, s⟩ := x
  have hz : ∀ s : ByteArray, s.toList.isEmpty = true → s.size ≤ 24 := by
    intro s hs
    rw [ByteArray.toList_eq, List.isEmpty_iff] at hs
    have : s.size = 0 := by
      show s.data.size = 0
      rw [← Array.length_toList, hs]; rfl
    omega
  unfold mayT mayRec mayK at h
  simp only [Bool.and_eq_true, decide_eq_true_eq] at h
  refine ⟨h.1.2, ?_⟩
  show s.size ≤ 24
  have h2 := h.2
  cases gone with
  | true =>
    simp only [if_true, Bool.and_eq_true] at h2
    exact hz _ h2.2
  | false =>
    simp only [Bool.false_eq_true, if_false] at h2
    unfold mayR at h2
    split at h2
    · exact hz _ h2
    · split at h2
      · simp only [Bool.and_eq_true, decide_eq_true_eq] at h2
        exact h2.1.2
      · cases h2

end Go.Proofs.Ytafpbhkddodjoaa

namespace Go.Proofs.Ytafpbhkddodjoaa
open Go.RowKit

def cutR (x : RecT) : RecT := (str ((bl x.1).take 20), x.2.1, x.2.2.1, x.2.2.2.1, str ((bl x.2.2.2.2).take 30))

theorem cut_sizes {l : List RecT} {n : Nat} {x : RecT} (h : x ∈ (l.take n).map cutR) : x.1.size ≤ 20 ∧ x.2.2.2.2.size ≤ 30 := by
  obtain ⟨y, -, rfl⟩ := List.mem_map.1 h
  unfold cutR
  simp only []
  rw [str_size, str_size, List.length_take, List.length_take]
  omega
/-- The reference's May of a record as one letter. -/
theorem rmayT_c (kx : ByteArray) (gx : Bool) (ax nx : Int) (sx : ByteArray) (w : World) (h1 : kx.size ≤ 20) (h2 : sx.size ≤ 30) :
    Calls Try.prog 11 #[.agg #[.string kx, .bool gx, .int .i64 ax, .int .i64 nx, .string sx]] w fun e w' => e = .returned (.bool (mayT (kx, gx, ax, nx, sx))) ∧ Below w.heap.size w w' :=
  rmayrec_c kx gx ax nx sx w (by unfold maxLen; omega) (by unfold maxLen; omega)
end Go.Proofs.Ytafpbhkddodjoaa

namespace Go.Proofs.Ytafpbhkddodjoaa
open Go.RowKit

set_option maxHeartbeats 2000000 in
set_option maxRecDepth 100000 in
theorem recs_c (v : Value) (l : List RecT) (n : Nat) (w : World) (hv : RRec w v l) (hn : n ≤ 1000) :
    Calls Try.prog 19 #[v, .int .i64 (n : Int)] w fun e w' => ∃ v', e = .returned v' ∧ OwnRec w' w.heap.size v' ((l.take n).map cutR) ∧ Below w.heap.size w w' := by
  have Hok := Go.Lib.hid hv.ok
  have hrs := hv.rs
  obtain ⟨a, cap, rfl, hm⟩ := hrs.form
  clear hv
  have HR := Go.Lib.hid hrs; clear hrs
  go_enter Try.func19, Try.ntmps19
  go_wp2_with fail
  go_loopw [5, 6] (fun vb i w2 => ∃ k : Nat, k ≤ l.length ∧ k ≤ n ∧ i = .int .i64 (k : Int) ∧ OwnRec w2 w.heap.size vb ((l.take k).map cutR) ∧ Below w.heap.size w w2) (fun _ i _ => n - (intOf i).toNat)
  case atStart => exact ⟨0, by omega, by omega, rfl, by simpa using OwnRec.nil _ _, Below.refl _ _⟩
  case round =>
    obtain ⟨k, hk, hkn, rfl, hown, hbc⟩ := hrel
    by_cases hlt : k < l.length
    · by_cases hltn : k < n
      · obtain ⟨b, o, rfl, -, hbs, c0, c1, c2, c3, c4⟩ := (HR.out.below hbc).at k hlt
        have ok := Hok.out l[k] (List.getElem_mem hlt)
        have hsn : (l.take (k + 1)).map cutR = (l.take k).map cutR ++ [cutR l[k]] := by rw [List.take_succ_eq_append_getElem hlt, List.map_append]; rfl
        have hml : ((l.take k).map cutR).length ≤ 1000 := by rw [List.length_map, List.length_take]; omega
        generalize l[k] = x at *
        obtain ⟨key, gone, rk, rn, rs⟩ := x
        obtain ⟨ok1, -, -, ok4⟩ := ok
        simp only [] at c0 c1 c2 c3 c4 ok1 ok4
        have C1 := Go.Lib.hid fun W => rcut_c key gone rk rn rs W ok1 ok4
        have hcx : cutR (key, gone, rk, rn, rs) = (str ((bl key).take 20), gone, rk, rn, str ((bl rs).take 30)) := rfl
        rw [hcx] at hsn
        clear hcx
        generalize (l.take k).map cutR = m at *
        generalize hk2 : str ((bl key).take 20) = key2 at *
        generalize hs2 : str ((bl rs).take 30) = s2 at *
        unfold recV at C1
        have Hsn := Go.Lib.hid hsn; clear hsn
        have Hix := Go.Lib.hid (run_idx5 b o l.length cap k hlt)
        clear ok1 ok4 hk2 hs2
        go_wp2_with fail
        refine (C1.out _).mono ?_
        rintro e w2 ⟨rfl, hc⟩
        have hown2 := OwnRec.below (hown.below hc) (below_one w2 (.cells #[.string key2, .bool gone, .int .i64 rk, .int .i64 rn, .string s2] 25))
        have hbc2 := hbc.trans (hc.mono hbc.size)
        have hbc3 := hbc2.trans ((below_one w2 (.cells #[.string key2, .bool gone, .int .i64 rk, .int .i64 rn, .string s2] 25)).mono hbc2.size)
        have hone := RS.one w2 (key2, gone, rk, rn, s2)
        simp only [] at hone
        have hbs := hbc3.size
        clear hc hown hbc c0 c1 c2 c3 c4 Hix C1 hbc2
        go_wp2_with (first
          | (with_reducible show wpList _ _ _ (⟨some 25, _, _, _, _, _⟩ :: _) _ _; go_loud (refine wpList_append_recs rfl (.tmp 18) (.tmp 24) rfl w.heap.size u5 (.slice (some ⟨w2.heap.size, 0, none⟩) 1 1) m [(key2, gone, rk, rn, s2)] rfl rfl hown2 hone (by simp; omega) hbs ?_); intro v4 w4 hown4 hg4; have hbc4 := hbc3.grown hg4 hbs hown2.row)
          | fail)
        rw [← Hsn.out] at hown4
        exact ⟨⟨k + 1, by omega, by omega, by go_num, hown4, hbc4⟩, by simp only [intOf]; omega⟩
      · obtain rfl : k = n := by omega
        go_wp2_with fail
        go_ret
        exact ⟨_, rfl, hown, hbc⟩
    · obtain rfl : k = l.length := by omega
      rw [List.take_of_length_le (Nat.le_refl _)] at hown
      have he : Hid (l.map cutR = (l.take n).map cutR) := by unfold Hid; rw [List.take_of_length_le hkn]
      rw [he.out] at hown
      go_wp2_with fail
      go_ret
      exact ⟨_, rfl, hown, hbc⟩

end Go.Proofs.Ytafpbhkddodjoaa
