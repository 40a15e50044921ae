/-
  The contract of the laws' begun.
-/
import Derived.Test.YtpelcnehndlinaaValEq
namespace Go.Proofs.Ytpelcnehndlinaa
open Go.RowKit

theorem cell_kept {w w' : World} {p : Addr} {c : Value} (h : w.cell? p = some c) (hb : Below w.heap.size w w') : w'.cell? p = some c :=
  (hb.cell (World.block_lt_of_cell? w _ h)).trans h

/-- A value in a block of its own. -/
theorem cell_new (w : World) (c : Value) (e : TypeId) : (w.alloc (.cells #[c] e)).cell? ⟨w.heap.size, 0, none⟩ = some c := by
  simp

theorem ka : mayR 2 0 ⟨#[97]⟩ = true := by decide +kernel
theorem ofa : ofV 2 0 ⟨#[97]⟩ = .tuple #[(VI.text ⟨#[97]⟩).val, .int .i64 0] := of_text ka
theorem of5 : ofV 1 5 ⟨#[]⟩ = .tuple #[(VI.num 5).val, .int .i64 0] := of_num (by unfold mayR; simp)
theorem of_k (k n : Int) (s : ByteArray) (v : Value) (h : ofV k n s = v) (w : World) : Calls Try.prog 13 #[rawV k n s] w fun e w' => e = .returned v ∧ Below w.heap.size w w' := by subst h; exact of_c k n s w
theorem z1 (a : UInt8) : (⟨#[a]⟩ : ByteArray).size ≤ 1000 := by show 1 ≤ _; omega
theorem z0 : (⟨#[]⟩ : ByteArray).size ≤ 1000 := by show 0 ≤ _; omega
theorem eq5a : eqR 1 5 ⟨#[]⟩ 2 0 ⟨#[97]⟩ = false := by decide +kernel

set_option maxHeartbeats 1000000 in
set_option maxRecDepth 100000 in
theorem begun_c (w : World) : Calls Try.prog 11 #[] w fun e w' => e = .returned (.bool true) ∧ Below w.heap.size w w' := by
  have c1 := of_k 1 5 ⟨#[]⟩ _ of5
  have c2 := of_k 2 0 ⟨#[97]⟩ _ ofa
  have c3 := num_c (.num 5)
  have c4 := num_c (.text ⟨#[97]⟩)
  have c5 := fun W => text_c (.text ⟨#[97]⟩) W (z1 97)
  have c6 := mustNum_n 5
  have c7 := fun W => kind_c (.num 5) W z0
  have c8 := fun W => raw_c (.text ⟨#[97]⟩) W (z1 97)
  have c9 := fun W => veq_c (.num 5) (.text ⟨#[97]⟩) W z0 (z1 97)
  simp only [VI.val, VI.v, VI.k, VI.n, VI.s, VI.isN, VI.isT, VI.raw, rawV, eq5a] at c1 c2 c3 c4 c5 c6 c7 c8 c9
  have hf := field_s 2 0 ⟨#[97]⟩
  have C1 := Go.Lib.hid c1; clear c1
  have C2 := Go.Lib.hid c2; clear c2
  have C3 := Go.Lib.hid c3; clear c3
  have C4 := Go.Lib.hid c4; clear c4
  have C5 := Go.Lib.hid c5; clear c5
  have C6 := Go.Lib.hid c6; clear c6
  have C7 := Go.Lib.hid c7; clear c7
  have C8 := Go.Lib.hid c8; clear c8
  have C9 := Go.Lib.hid c9; clear c9
  go_enter Try.func11, Try.ntmps11
  go_wp2_with fail
  refine (C1.out _).mono ?_
  rintro e w1 ⟨rfl, hb1⟩
  go_wp2_with fail
  have x1 := cell_new w1 (.iface 56 (.int .i64 5)) 27
  have hbb1 := hb1.trans ((below_one w1 (.cells #[.iface 56 (.int .i64 5)] 27)).mono hb1.size)
  clear hb1
  generalize w1.alloc (.cells #[.iface 56 (.int .i64 5)] 27) = w1' at *
  refine (C2.out _).mono ?_
  rintro e w2 ⟨rfl, hb2⟩
  have x1 := cell_kept x1 hb2
  have hbb2 := hbb1.trans (hb2.mono hbb1.size)
  clear hb2 hbb1
  have y1 := cell_kept x1 (below_one w2 (.cells #[.iface 57 (.string ⟨#[97]⟩)] 27))
  have x3 := cell_new w2 (.iface 57 (.string ⟨#[97]⟩)) 27
  have hbb3 := hbb2.trans ((below_one w2 (.cells #[.iface 57 (.string ⟨#[97]⟩)] 27)).mono hbb2.size)
  clear hbb2 x1
  go_wp2_with fail
  generalize w2.alloc (.cells #[.iface 57 (.string ⟨#[97]⟩)] 27) = w3 at *
  generalize w2.heap.size = b3 at *
  generalize w1.heap.size = b1 at *
  refine (C3.out _).mono ?_
  rintro e w4 ⟨rfl, hb4⟩
  have y1 := cell_kept y1 hb4
  have x3 := cell_kept x3 hb4
  have hbb4 := hbb3.trans (hb4.mono hbb3.size)
  clear hb4 hbb3
  go_wp2_with fail
  refine (C4.out _).mono ?_
  rintro e w5 ⟨rfl, hb5⟩
  have y1 := cell_kept y1 hb5
  have x3 := cell_kept x3 hb5
  have hbb5 := hbb4.trans (hb5.mono hbb4.size)
  clear hb5 hbb4
  go_wp2_with fail
  refine (C5.out _).mono ?_
  rintro e w6 ⟨rfl, hb6⟩
  have y1 := cell_kept y1 hb6
  have x3 := cell_kept x3 hb6
  have hbb6 := hbb5.trans (hb6.mono hbb5.size)
  clear hb6 hbb5
  go_wp2_with fail
  refine (C6.out _).mono ?_
  rintro e w7 ⟨rfl, hb7⟩
  have y1 := cell_kept y1 hb7
  have x3 := cell_kept x3 hb7
  have hbb7 := hbb6.trans (hb7.mono hbb6.size)
  clear hb7 hbb6
  go_wp2_with fail
  refine (C7.out _).mono ?_
  rintro e w8 ⟨rfl, hb8⟩
  have y1 := cell_kept y1 hb8
  have x3 := cell_kept x3 hb8
  have hbb8 := hbb7.trans (hb8.mono hbb7.size)
  clear hb8 hbb7
  go_wp2_with fail
  refine (C8.out _).mono ?_
  rintro e w9 ⟨rfl, hb9⟩
  have y1 := cell_kept y1 hb9
  have x3 := cell_kept x3 hb9
  have hbb9 := hbb8.trans (hb9.mono hbb8.size)
  clear hb9 hbb8
  go_wp2_with fail
  refine (C9.out _).mono ?_
  rintro e w10 ⟨rfl, hb10⟩
  have hbb10 := hbb9.trans (hb10.mono hbb9.size)
  clear hb10 hbb9 y1 x3
  go_wp2_with fail
  go_ret
  exact ⟨rfl, hbb10⟩

end Go.Proofs.Ytpelcnehndlinaa
