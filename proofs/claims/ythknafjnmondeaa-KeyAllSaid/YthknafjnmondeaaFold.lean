/-
  Bytes of a text in a row of the call's own ('[]byte(s)'); the reference's Fold.
-/
import Derived.Test.YthknafjnmondeaaKeyM
import Derived.Lib.ConvBytes
import Derived.Lib.BufferWrite
import Derived.LoopTactic
import Derived.Deep.DeepCutAuto
namespace Go.Proofs.Ythknafjnmondeaa
open Go.RowKit Go.Op

/-- Block g holds the bytes l, and may be written there. -/
structure OwnC (w : World) (g : Nat) (l : List UInt8) : Prop where
  cell : ∀ i (h : i < l.length), w.cell? ⟨g, i, none⟩ = some (.int .u8 (l[i].toNat : Int))
  free : ∀ i, i < l.length → w.frozen? ⟨g, i, none⟩ = false

theorem OwnC.store {w : World} {g : Nat} {l : List UInt8} (h : OwnC w g l) (k : Nat) (hk : k < l.length) (c : UInt8) (x : Int) (hx : x = (c.toNat : Int)) : OwnC (w.setCell ⟨g, k, none⟩ (.int .u8 x)) g (l.set k c) := by
  subst hx
  refine ⟨fun i hi => ?_, fun i hi => ?_⟩
  · have hi' : i < l.length := by simpa using hi
    by_cases hik : i = k
    · subst hik
      rw [World.cell?_setCell_same _ _ _ (h.cell i hi'), List.getElem_set_self]
    · rw [World.cell?_setCell_other _ _ _ _ (by simp), h.cell i hi', List.getElem_set_ne (Ne.symm hik)]
  · have hi' : i < l.length := by simpa using hi
    simpa [go_sem] using h.free i hi'

theorem bytes_own (w : World) (e : TypeId) (s : ByteArray) : OwnC (Go.Lib.bytesWorld w e s) w.heap.size (bl s) := by
  have hsz : s.size ≤ (Go.Lib.bytesCells w e s).size := by
    unfold Go.Lib.bytesCells
    rw [Array.size_append, Array.size_map]
    show s.data.size ≤ _
    omega
  refine ⟨fun i hi => ?_, fun i hi => ?_⟩
  · rw [Go.Lib.bytesWorld_cell w e s i (by rw [bl_size]; exact hi)]
    simp [bl] at hi ⊢
    simp [hi]
  · rw [← bl_size] at hi
    simp [World.frozen?, Go.Lib.bytesWorld_at_new]
    omega
theorem bytes_below (w : World) (e : TypeId) (s : ByteArray) : Below w.heap.size w (Go.Lib.bytesWorld w e s) := by
  unfold Go.Lib.bytesWorld
  exact Go.Lib.below_freeze ((below_drewN (Below.refl _ w) 1).alloc (Nat.le_refl _) _) (p := ⟨w.heap.size, _, none⟩) (Nat.le_refl _) _
theorem OwnC.rb {w : World} {g n cap : Nat} {l : List UInt8} (h : OwnC w g l) (hn : n = l.length) (h1 : n ≤ cap) (h2 : cap ≤ maxLen) : RB w (.slice (some ⟨g, 0, none⟩) n cap) l := by
  subst hn
  refine ⟨some ⟨g, 0, none⟩, cap, rfl, h1, h2, (fun h => by cases h), fun _ => ⟨g, 0, rfl, fun i hi => ?_⟩⟩
  rw [Nat.zero_add]
  exact h.cell i hi

theorem fold_at (l : List UInt8) (k : Nat) (h : k < l.length) : (foldL (l.take k) ++ l.drop k)[k]'(by rw [List.length_append, fold_len, List.length_take, List.length_drop]; omega) = l[k] := by
  rw [List.getElem_append_right (by rw [fold_len, List.length_take]; omega)]
  simp [fold_len, Nat.min_eq_left (Nat.le_of_lt h)]
theorem fold_keep (l : List UInt8) (k : Nat) (h : k < l.length) (hl : low l[k] = l[k]) : foldL (l.take k) ++ l.drop k = foldL (l.take (k + 1)) ++ l.drop (k + 1) := by
  rw [← fold_step l k h, hl]
  have hlt : k < (foldL (l.take k) ++ l.drop k).length := by rw [List.length_append, fold_len, List.length_take, List.length_drop]; omega
  have := List.set_getElem_self hlt
  rw [fold_at l k h] at this
  exact this.symm
theorem fold_length2 (l : List UInt8) (k : Nat) : (foldL (l.take k) ++ l.drop k).length = l.length := by rw [List.length_append, fold_len, List.length_take, List.length_drop]; omega

set_option maxHeartbeats 2000000 in
set_option maxRecDepth 100000 in
theorem rfold_c (s : ByteArray) (w : World) (hm : s.size ≤ 1000000) :
    Calls Try.prog 15 #[.string s] w fun e w' => e = .returned (.string (str (foldL (bl s)))) ∧ Below w.heap.size w w' := by
  have hcv := Go.Lib.run_convert_string_bytes (P := Try.prog) w 9 35 5 s Try.underlying9 Try.underlying35 Try.underlying5
  have hown := bytes_own w 5 s
  have hbb := bytes_below w 5 s
  have hc1 := grownCap_ge w s.size 0 5
  have hc2 := grownCap_le_maxLen w s.size 0 5 (by unfold maxLen; omega)
  have hsz := bl_size s
  generalize bl s = l at *
  generalize grownCap w s.size 0 5 = cap at *
  generalize Go.Lib.bytesWorld w 5 s = w1 at *
  have Hsz := Go.Lib.hid hsz; clear hsz
  go_enter Try.func15, Try.ntmps15
  go_wp2_with fail
  go_loopw [4] (fun i wr => ∃ k : Nat, k ≤ l.length ∧ i = .int .i64 (k : Int) ∧ OwnC wr w.heap.size (foldL (l.take k) ++ l.drop k) ∧ Below w.heap.size w wr) (fun i _ => l.length - (intOf i).toNat)
  case atStart => exact ⟨0, by omega, rfl, by simpa [foldL] using hown, hbb⟩
  case round =>
    obtain ⟨k, hk, rfl, ho, hbr⟩ := hrel
    have hl2 := fold_length2 l k
    by_cases hlt : k < l.length
    · have hcell := ho.cell k (by omega)
      have hfree := ho.free k (by omega)
      rw [fold_at l k hlt] at hcell
      have hstep := fold_step l k hlt
      have hkeep := fold_keep l k hlt
      have hst := fun c x hx => ho.store k (by omega) c x hx
      have hsk : k < s.size := by rw [Hsz.out]; exact hlt
      have hbs := hbr.setCell (p := ⟨w.heap.size, k, none⟩) (Nat.le_refl _)
      have Hbr := Go.Lib.hid hbr; clear hbr
      have Hbs := Go.Lib.hid hbs; clear hbs
      have Hst := Go.Lib.hid hst; clear hst
      have Hstep := Go.Lib.hid hstep; clear hstep
      have Hkeep := Go.Lib.hid hkeep; clear hkeep
      have Ho := Go.Lib.hid ho; clear ho hl2 hown hbb hc1 hc2 hcv
      generalize hc : l[k] = c at hcell Hstep Hkeep
      have hc256 : c.toNat < 256 := c.toNat_lt
      clear hc
      by_cases h1 : c.toNat < 65
      · have hlow : Hid (low c = c) := by unfold Hid low; rw [if_neg (by omega)]
        go_wp2_with fail
        go_roundw
        case rel => exact ⟨k + 1, by omega, by go_num, by rw [← Hkeep.out hlow.out]; exact Ho.out, Hbr.out⟩
        case measure => simp [intOf]; omega
      by_cases h2 : 90 < c.toNat
      · have hlow : Hid (low c = c) := by unfold Hid low; rw [if_neg (by omega)]
        go_wp2_with fail
        go_roundw
        case rel => exact ⟨k + 1, by omega, by go_num, by rw [← Hkeep.out hlow.out]; exact Ho.out, Hbr.out⟩
        case measure => simp [intOf]; omega
      · have hlow : Hid (low c = UInt8.ofNat (c.toNat + 32)) := by unfold Hid low; rw [if_pos (by omega)]
        have hst := Hst.out (UInt8.ofNat (c.toNat + 32)) ((c.toNat : Int) + 32) (by rw [ofNat_toNat _ (by omega)]; omega)
        rw [← hlow.out, Hstep.out] at hst
        have Hst2 := Go.Lib.hid hst; clear hst
        have hw : IntKind.u8.wrap ((c.toNat : Int) + 32) = (c.toNat : Int) + 32 := by rw [IntKind.wrap_u8]; omega
        clear Hst Hstep Hkeep Ho hlow
        go_wp2_with fail
        go_roundw
        case rel => exact ⟨k + 1, by omega, by go_num, Hst2.out, Hbs.out _⟩
        case measure => simp [intOf]; omega
    · obtain rfl : k = l.length := by omega
      rw [List.take_of_length_le (Nat.le_refl _), List.drop_of_length_le (Nat.le_refl _), List.append_nil] at ho
      have hrb := ho.rb (n := s.size) (cap := cap) (by rw [fold_len]; exact Hsz.out) hc1 hc2
      clear hown hbb hcv ho
      have hnk : ¬ l.length < s.size := by rw [Hsz.out]; omega
      go_wp2_with (first
        | (with_reducible show wpList _ _ _ (⟨some 32, _, _, _, _, _⟩ :: _) _ _; go_loud (refine wpList_string_RB rfl (.tmp 31) 35 9 rfl 5 Try.underlying35 Try.underlying5 Try.underlying9 (.slice (some ⟨w.heap.size, 0, none⟩) s.size cap) (foldL l) rfl hrb ?_))
        | fail)
      go_ret
      exact ⟨rfl, hbr⟩

end Go.Proofs.Ythknafjnmondeaa
