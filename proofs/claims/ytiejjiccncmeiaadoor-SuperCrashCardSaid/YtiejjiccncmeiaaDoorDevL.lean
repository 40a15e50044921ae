/-
  The contract of dev's Loose.
-/
import Derived.Test.YtiejjiccncmeiaaDoorDevN
import Derived.LoopTactic
namespace Go.Proofs.YtiejjiccncmeiaaDoor
open Go.RowKit

theorem infoI : (Tryd.prog.info? 3).map (fun i => (i.zero, i.size, i.bytes)) = some (some (.int .i64 0), 1, 8) := by kernel_rfl

set_option maxRecDepth 100000 in
theorem dloose_nil (w : World) : Calls Tryd.prog 16 #[.pointer none] w fun e w' => e = .returned (.slice none 0 0) ∧ w = w' := by
  have C := Go.Lib.hid (dlen_nil w)
  go_enter Tryd.func16, Tryd.ntmps16
  go_wp2_with fail
  refine C.out.mono ?_
  rintro e w1 ⟨rfl, rfl⟩
  go_wp2_with fail
  go_loopw [3, 7] (fun u c wr => u = .slice none 0 0 ∧ c = .int .i64 0 ∧ wr = w) (fun _ _ _ => 0)
  case atStart => exact ⟨rfl, rfl, rfl⟩
  case round =>
    obtain ⟨rfl, rfl, rfl⟩ := hrel
    go_wp2_with fail
    go_ret
    exact ⟨rfl, rfl⟩

section
variable {w : World} {B d g n : Nat} {S : Nat → Sec} {L : Life}
set_option maxRecDepth 100000 in
theorem dloose_c (h : DV w B d g n S L) : Calls Tryd.prog 16 #[.pointer (some ⟨d, 0, none⟩)] w fun e w' => ∃ v, e = .returned v ∧ OwnV 3 w' w.heap.size v (zi .i64 (looseL (lf S) n)) ∧ Below w.heap.size w w' := by
  have C := Go.Lib.hid (dlen_c h)
  have hn1 := h.n1
  have H := Go.Lib.hid h; clear h
  go_enter Tryd.func16, Tryd.ntmps16
  go_wp2_with fail
  refine C.out.mono ?_
  rintro e w1 ⟨rfl, rfl⟩
  go_wp2_with fail
  go_loopw [3, 7] (fun u c wr => ∃ (k : Nat) (v : Value), v = u ∧ k ≤ n ∧ c = .int .i64 (k : Int) ∧ OwnV 3 wr w.heap.size v (zi .i64 (looseL (lf S) k)) ∧ Below w.heap.size w wr) (fun _ c _ => n - (intOf c).toNat)
  case atStart => exact ⟨0, _, rfl, by omega, rfl, OwnV.nil _ _ _, Below.refl _ _⟩
  case round =>
    obtain ⟨k, v, rfl, hk, rfl, hown, hbw⟩ := hrel
    by_cases hlt : k < n
    · have hdv := H.out.below hbw
      have c0 := hdv.c0
      have c1 := (hdv.row.sec k hlt).loose
      have hkI : (k : Int) < (n : Int) := by omega
      have hw : (k : Int) + 1 = ((k + 1 : Nat) : Int) := by omega
      have hle := looseL_length_le (lf S) k
      by_cases hlo : (S k).loose = true
      · rw [hlo] at c1
        have hmore := Go.Lib.hid (show zi .i64 (looseL (lf S) (k + 1)) = zi .i64 (looseL (lf S) k) ++ [.int .i64 (k : Int)] from by rw [looseL_yes (lf S) k hlo, zi_append]; rfl)
        have hown3 := hown.alloc (.cells #[.int .i64 (k : Int)] 3)
        have hrv := RV.one wr 3 (.int .i64 (k : Int))
        have hbw3 := hbw.alloc hbw.size (.cells #[.int .i64 (k : Int)] 3)
        have hone : ∀ u ∈ [Value.int .i64 (k : Int)], u.oneCell' = true := by intro u hu; obtain rfl := List.mem_singleton.1 hu; rfl
        have hln1 : ((zi .i64 (looseL (lf S) k)).length + [Value.int .i64 (k : Int)].length) * 8 ≤ 140737488355328 := by rw [zi_length]; simp only [List.length_cons, List.length_nil]; omega
        have hln2 : (zi .i64 (looseL (lf S) k)).length + [Value.int .i64 (k : Int)].length ≤ 140737488355328 := by omega
        have HW := Go.Lib.hid hw
        clear hdv hown hbw hle hlo hw
        go_wp2_with (first
          | (with_reducible show wpList _ _ _ (⟨some 21, _, _, _, _, _⟩ :: _) _ _; go_must (refine wpList_append_RV rfl (.tmp 18) (.tmp 20) 37 rfl w.heap.size 3 Tryd.underlying37 (.int .i64 0) 8 rfl infoI v (.slice (some ⟨wr.heap.size, 0, none⟩) 1 1) (zi .i64 (looseL (lf S) k)) [.int .i64 (k : Int)] rfl rfl hown3 hrv hone hln1 hln2 hbw3.size ?_); intro v4 w4 hown4 hg4; have hb4 := hbw3.grown hg4 hbw3.size hown3.row)
          | fail)
        go_roundw
        case rel => exact ⟨k + 1, _, rfl, by omega, by rw [HW.out], by rw [hmore.out]; exact hown4, hb4⟩
        case measure => simp only [intOf]; omega
      · rw [show (S k).loose = false from by simpa using hlo] at c1
        have hmore := Go.Lib.hid (looseL_no (lf S) k (show lf S k = false from by simpa [lf] using hlo))
        have HW := Go.Lib.hid hw
        clear hdv hle hlo hw
        go_wp2_with fail
        go_roundw
        case rel => exact ⟨k + 1, _, rfl, by omega, by rw [HW.out], by rw [hmore.out]; exact hown, hbw⟩
        case measure => simp only [intOf]; omega
    · obtain rfl : k = n := by omega
      go_wp2_with fail
      go_ret
      exact ⟨_, rfl, hown, hbw⟩
end

end Go.Proofs.YtiejjiccncmeiaaDoor
