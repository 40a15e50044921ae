/-
  The contracts of dev: Len, has, Calls, Dead, Fuse, count.
-/
import Derived.Test.YtiejjiccncmeiaaDoorDevB
import Derived.Deep.DeepCutAuto
namespace Go.Proofs.YtiejjiccncmeiaaDoor
open Go.RowKit

theorem beq_dec (a b : Int) : (a == b) = decide (a = b) := by by_cases h : a = b <;> simp [h]
section
variable (w : World)
set_option maxRecDepth 100000
theorem dlen_nil : Calls Tryd.prog 24 #[.pointer none] w fun e w' => e = .returned (.int .i64 0) ∧ w = w' := by
  go_enter Tryd.func24, Tryd.ntmps24
  go_wp2_with fail
  go_ret
  exact ⟨rfl, rfl⟩
theorem ddead_nil : Calls Tryd.prog 25 #[.pointer none] w fun e w' => e = .returned (.bool true) ∧ w = w' := by
  go_enter Tryd.func25, Tryd.ntmps25
  go_wp2_with fail
  go_ret
  exact ⟨rfl, rfl⟩
theorem dfuse_nil (n : Int) : Calls Tryd.prog 17 #[.pointer none, .int .i64 n] w fun e w' => e = .returned (.tuple #[]) ∧ w = w' := by
  have C := Go.Lib.hid (ddead_nil w)
  go_enter Tryd.func17, Tryd.ntmps17
  go_wp2_with fail
  refine C.out.mono ?_
  rintro e w1 ⟨rfl, rfl⟩
  go_wp2_with fail
  refine bodyPost_ret (results_none rfl _ _ _) rfl ?_
  exact ⟨rfl, rfl⟩

variable {B d g n : Nat} {S : Nat → Sec} {L : Life}
variable {w}
theorem dlen_c (h : DV w B d g n S L) : Calls Tryd.prog 24 #[.pointer (some ⟨d, 0, none⟩)] w fun e w' => e = .returned (.int .i64 (n : Int)) ∧ w = w' := by
  have c0 := h.c0
  clear h
  go_enter Tryd.func24, Tryd.ntmps24
  go_wp2_with fail
  go_ret
  exact ⟨rfl, rfl⟩
theorem ddead_c (h : DV w B d g n S L) : Calls Tryd.prog 25 #[.pointer (some ⟨d, 0, none⟩)] w fun e w' => e = .returned (.bool L.dead) ∧ w = w' := by
  have c4 := h.c4
  clear h
  go_enter Tryd.func25, Tryd.ntmps25
  go_wp2_with fail
  go_ret
  exact ⟨rfl, rfl⟩
theorem dhas_c (h : DV w B d g n S L) (i : Int) : Calls Tryd.prog 26 #[.pointer (some ⟨d, 0, none⟩), .int .i64 i] w fun e w' => e = .returned (.bool (decide (0 ≤ i) && decide (i < (n : Int)))) ∧ w = w' := by
  have C := Go.Lib.hid (dlen_c h)
  clear h
  by_cases h0 : 0 ≤ i
  · go_enter Tryd.func26, Tryd.ntmps26
    go_wp2_with fail
    refine C.out.mono ?_
    rintro e w1 ⟨rfl, rfl⟩
    go_wp2_with fail
    go_ret
    exact ⟨by simp [h0], rfl⟩
  · go_enter Tryd.func26, Tryd.ntmps26
    go_wp2_with fail
    go_ret
    exact ⟨by simp; omega, rfl⟩
theorem dfuse_c (h : DV w B d g n S L) (k : Int) (hk0 : -9223372036854775808 ≤ k) (hk1 : k ≤ 9223372036854775807) : Calls Tryd.prog 17 #[.pointer (some ⟨d, 0, none⟩), .int .i64 k] w fun e w' => e = .returned (.tuple #[]) ∧ DV w' B d g n S (L.fuseTo k) ∧ Two d (some g) w w' := by
  have C := Go.Lib.hid (ddead_c h)
  have hok := h.ok.fuseTo k hk0 hk1
  by_cases hd : L.dead = true
  · have e : L.fuseTo k = L := by unfold Life.fuseTo; rw [if_pos hd]
    rw [e]
    have H := Go.Lib.hid h; clear h
    rw [hd] at C
    clear hk0 hk1
    go_enter Tryd.func17, Tryd.ntmps17
    go_wp2_with fail
    refine C.out.mono ?_
    rintro e w1 ⟨rfl, rfl⟩
    go_wp2_with fail
    refine bodyPost_ret (results_none rfl _ _ _) rfl ?_
    exact ⟨rfl, H.out, Two.refl _ _ _⟩
  · have hd' : L.dead = false := by simpa using hd
    have e : L.fuseTo k = ⟨L.calls, decide (0 ≤ k), k, decide (k = 0)⟩ := by unfold Life.fuseTo; rw [if_neg hd]
    rw [e] at hok ⊢
    have c2 := h.c2
    have c3 := h.c3
    have c4 := h.c4
    have f2 := h.f 2
    have f3 := h.f 3
    have f4 := h.f 4
    have hne := Go.Lib.hid h.ne
    have H := Go.Lib.hid h; clear h
    rw [hd'] at C
    clear hk0 hk1
    have HO := Go.Lib.hid hok; clear hok
    go_enter Tryd.func17, Tryd.ntmps17
    go_wp2_with fail
    refine C.out.mono ?_
    rintro e w1 ⟨rfl, rfl⟩
    go_wp2_with fail
    go_end0
    refine ⟨rfl, H.out.life ?_ ?_ HO.out, (((Two.refl _ _ _).setD _).setD _).setD _⟩
    · rw [heap_set (heap_set (heap_set H.out.blk _ _) _ _) _ _]
      simp [beq_dec]
    · rw [Below.heap_setCell _ _ _ _ (fun e => hne.out e.symm), Below.heap_setCell _ _ _ _ (fun e => hne.out e.symm), Below.heap_setCell _ _ _ _ (fun e => hne.out e.symm)]
theorem dcount_c (h : DV w B d g n S L) (hd : L.dead = false) (hc : L.calls < 1000000) : Calls Tryd.prog 27 #[.pointer (some ⟨d, 0, none⟩)] w fun e w' => e = .returned (.tuple #[]) ∧ DV w' B d g n S L.tick ∧ Two d (some g) w w' := by
  have hok := Go.Lib.hid (h.ok.tick hd hc)
  have c1 := h.c1
  have c2 := h.c2
  have c3 := h.c3
  have c4 := h.c4
  have f1 := h.f 1
  have f3 := h.f 3
  have f4 := h.f 4
  have hne := Go.Lib.hid h.ne
  have k0 := h.ok.c0
  have k1 := h.ok.fuse
  have k2 := h.ok.l1
  have H := Go.Lib.hid h; clear h
  have HD := Go.Lib.hid hd; clear hd
  obtain ⟨c, f, l, z⟩ := L
  simp only at *
  cases f with
  | false =>
    clear k1 k2
    go_enter Tryd.func27, Tryd.ntmps27
    go_wp2_with fail
    go_end0
    refine ⟨rfl, H.out.life ?_ ?_ hok.out, (Two.refl _ _ _).setD _⟩
    · rw [heap_set H.out.blk _ _]
      simp [Life.tick]
    · rw [Below.heap_setCell _ _ _ _ (fun e => hne.out e.symm)]
  | true =>
    have k1' := k1 rfl
    clear k1
    go_enter Tryd.func27, Tryd.ntmps27
    go_wp2_with fail
    go_end0
    refine ⟨rfl, H.out.life ?_ ?_ hok.out, (((Two.refl _ _ _).setD _).setD _).setD _⟩
    · rw [heap_set (heap_set (heap_set H.out.blk _ _) _ _) _ _]
      simp [Life.tick, beq_dec]
    · rw [Below.heap_setCell _ _ _ _ (fun e => hne.out e.symm), Below.heap_setCell _ _ _ _ (fun e => hne.out e.symm), Below.heap_setCell _ _ _ _ (fun e => hne.out e.symm)]
end

end Go.Proofs.YtiejjiccncmeiaaDoor
