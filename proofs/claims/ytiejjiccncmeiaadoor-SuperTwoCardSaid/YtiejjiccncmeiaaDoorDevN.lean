/-
  The contract of dev.New; a row of sectors that is made.
-/
import Derived.Test.YtiejjiccncmeiaaDoorDevF
namespace Go.Proofs.YtiejjiccncmeiaaDoor
open Go.RowKit

def secZ : Array Value := (List.replicate 128 (Value.int .u8 0) ++ [Value.bool false]).toArray
theorem infoSec : (Tryd.prog.info? 57).map (fun i => (i.zero, i.size, i.bytes)) = some (some (.agg secZ), 129, 129) := by kernel_rfl
theorem secZ_size : secZ.size = 129 := by simp [secZ]
theorem rep_at (m r : Nat) (v : Value) (l : List Value) (h : r < m) : ((List.replicate m v ++ l).toArray)[r]! = v := by
  rw [getElem!_pos _ r (by simp; omega)]
  simp only [List.getElem_toArray]
  rw [List.getElem_append_left (by rw [List.length_replicate]; exact h), List.getElem_replicate]
theorem rep_last (m : Nat) (v u : Value) : ((List.replicate m v ++ [u]).toArray)[m]! = u := by
  rw [getElem!_pos _ m (by simp)]
  simp
theorem secZ_at (r : Nat) (h : r < 128) : secZ[r]! = .int .u8 0 := rep_at 128 r _ _ h
theorem secZ_last : secZ[128]! = .bool false := rep_last 128 _ _
theorem made_at (n i r : Nat) (hi : i < n) (hr : r < 129) : (madeCells secZ (n * 129))[i * 129 + r]? = some secZ[r]! := by
  unfold madeCells
  rw [Array.getElem?_map, Array.getElem?_range, if_pos (by omega)]
  simp only [Option.map_some, secZ_size]
  rw [show (i * 129 + r) % 129 = r from by omega]
theorem cells_zero (m j : Nat) (v : Value) (h : (cells (List.replicate m (0 : UInt8)))[j]? = some v) : j < m ∧ v = .int .u8 0 := by
  unfold cells at h
  rw [List.map_replicate, List.getElem?_replicate] at h
  split at h
  · rename_i h1
    exact ⟨h1, (Option.some.inj h).symm⟩
  · cases h
theorem sr_made (w : World) (n : Nat) : SR (w.alloc (.cells (madeCells secZ (n * 129)) 57)) w.heap.size n newS := by
  have hh := heap_alloc_new w (.cells (madeCells secZ (n * 129)) 57)
  have hc : ∀ o, (w.alloc (.cells (madeCells secZ (n * 129)) 57)).cell? ⟨w.heap.size, o, none⟩ = (madeCells secZ (n * 129))[o]? := fun o => cell_of_row _ _ _ _ _ _ hh
  refine ⟨⟨_, hh, size_madeCells _ _⟩, fun i hi => ⟨fun j v hv => ?_, fun j v hv => ?_, ?_⟩, Whole.new n⟩
  · obtain ⟨h1, rfl⟩ := cells_zero 64 j v hv
    rw [hc, made_at n i j hi (by omega), secZ_at j (by omega)]
  · obtain ⟨h1, rfl⟩ := cells_zero 64 j v hv
    rw [hc, Nat.add_assoc, made_at n i (64 + j) hi (by omega), secZ_at (64 + j) (by omega)]
  · rw [hc, made_at n i 128 hi (by omega), secZ_last]
    rfl

/-- 'make([]sector, n)'. -/
theorem wpList_make_secs {ops : Array Oper} {rest : List Oper} {o : Oper} {a : Act} {w : World} {Q : Exit → Act → World → Prop} (hgd : o.guard = none) (lo co : Operand)
    (hop : o.op = Op.makeSlice 47 lo co) (kl kc : IntKind) (L C : Int) (n : Nat) (hl : a.eval lo = .int kl L) (hc : a.eval co = .int kc C) (hL : L = (n : Int)) (hC : C = (n : Int)) (hcm : n ≤ 2048)
    (h : ∀ w', Hid (SR w' w.heap.size n newS) → Hid (Below w.heap.size w w') → w'.heap.size = w.heap.size + 1 → wpList Tryd.prog ops Q rest (a.put o.dst (.slice (some ⟨w.heap.size, 0, none⟩) n n)) w') : wpList Tryd.prog ops Q (o :: rest) a w := by
  obtain ⟨i, hi, hz, hsize, hby⟩ := info_parts infoSec
  subst hL hC
  have hr := run_make (P := Tryd.prog) w 47 57 i (.agg secZ) Tryd.underlying47 hi hz kl kc n n (by omega) (by omega) (by rw [hby]; omega) (by omega)
  simp only [Int.toNat_natCast, hsize] at hr
  refine wpList_gives hgd (.slice (some ⟨w.heap.size, 0, none⟩) n n) (w.alloc (.cells (madeCells (Value.agg secZ).cells (n * 129)) 57)) (by simp [execOp, hop, hl, hc, hr, Result.andThen]) (h _ (sr_made w n) ((Below.refl _ _).alloc (Nat.le_refl _) _) (Array.size_push ..))

/-- As many sectors as a device has. -/
def lenD (n : Int) : Nat := (min (max n 1) 2048).toNat
theorem lenD_of {n : Int} (h1 : 1 ≤ n) (h2 : n ≤ 2048) : lenD n = n.toNat := by unfold lenD; omega

set_option maxRecDepth 100000 in
theorem dnew_c (n : Int) (w : World) : Calls Tryd.prog 8 #[.int .i64 n] w fun e w' => ∃ d g, e = .returned (.pointer (some ⟨d, 0, none⟩)) ∧ DV w' w.heap.size d g (lenD n) newS born ∧ Below w.heap.size w w' := by
  obtain ⟨k, hk⟩ : ∃ k, lenD n = k := ⟨_, rfl⟩
  have hkI : min (max n 1) 2048 = (k : Int) := by rw [← hk]; unfold lenD; omega
  have hk0 : 0 < k := by omega
  have hk1 : k ≤ 2048 := by omega
  rw [hk]
  clear hk
  have HK := Go.Lib.hid hkI; clear hkI
  go_enter Tryd.func8, Tryd.ntmps8
  go_wp2_with (first
    | (with_reducible show wpList _ _ _ (⟨some 6, _, _, _, _, _⟩ :: _) _ _; go_loud (refine wpList_make_secs rfl (.tmp 5) (.tmp 5) rfl .i64 .i64 _ _ k rfl rfl HK.out HK.out hk1 ?_); intro w2 hs hb hsz)
    | fail)
  go_ret
  refine ⟨_, _, rfl, ⟨by rw [← hsz]; exact heap_alloc_new _ _, ?_, born_ok, by omega, Nat.le_refl _, hk0, hk1⟩, hb.out.alloc (by omega) _⟩
  exact hs.out.same (Below.heap_alloc _ _ _ (by omega))

end Go.Proofs.YtiejjiccncmeiaaDoor
