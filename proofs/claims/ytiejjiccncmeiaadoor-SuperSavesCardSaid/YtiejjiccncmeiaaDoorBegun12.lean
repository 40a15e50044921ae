/-
  The laws' begun of super: true, whatever the memory.
-/
import Derived.Test.YtiejjiccncmeiaaDoorSupS
namespace Go.Proofs.YtiejjiccncmeiaaDoor
open Go.RowKit

/-- Bytes that were laid as the program's text has them. -/
theorem TX.lits (w : World) (l : List UInt8) (arr : Array Value) (n : Nat) (h : arr = (cells l).toArray) (hn : n = l.length) (hm : l.length ≤ 1000) (fr : Nat × Nat) : TX (w.alloc (.cells arr 5 fr)) (.slice (some ⟨w.heap.size, 0, none⟩) n n) l :=
  ⟨RB.lits w _ fr l arr n h hn hm, fun _ => ⟨w.heap.size, 0, n, n, arr, fr, rfl, heap_alloc_new w _⟩⟩
theorem TX.keep {w : World} {v : Value} {x : List UInt8} {B d g n : Nat} {S : Nat → Sec} {L : Life} (h : TX w v x) (k : DV w B d g n S L) : ∀ w', Offs [d, g] w w' → RB w' v x := fun _ ho => (h.offs ho k.noBytes).1
/-- What the law was handed stays, whatever is done to what was made behind it. -/
theorem RB.keep {w0 w : World} {v : Value} {x : List UInt8} {B d g n : Nat} {S : Nat → Sec} {L : Life} (h : RB w0 v x) (hb : Below w0.heap.size w0 w) (k : DV w B d g n S L) (hB : w0.heap.size ≤ B) : ∀ w', Offs [d, g] w w' → RB w' v x := fun _ ho =>
  h.below (hb.trans (ho.below (by intro i hi; have := k.lowd; have := k.lowg; simp only [List.mem_cons, List.not_mem_nil, or_false] at hi; rcases hi with rfl | rfl <;> omega) hb.size))
theorem Offs.belowDV {w w' : World} {B B0 d g n : Nat} {S : Nat → Sec} {L : Life} (h : Offs [d, g] w w') (k : DV w B d g n S L) (hB : B0 ≤ B) (hw : B0 ≤ w.heap.size) : Below B0 w w' :=
  h.below (by intro i hi; have := k.lowd; have := k.lowg; simp only [List.mem_cons, List.not_mem_nil, or_false] at hi; rcases hi with rfl | rfl <;> omega) hw
theorem Offs.belowSU {w w' : World} {B B' B0 d g n p at_ : Nat} {S : Nat → Sec} {L : Life} {f : Found} (h : Offs [d, g, p] w w') (k : DV w B d g n S L) (s : SU w B' p d at_ f) (hB : B0 ≤ B) (hB' : B0 ≤ B') (hw : B0 ≤ w.heap.size) : Below B0 w w' :=
  h.below (by intro i hi; have := k.lowd; have := k.lowg; have := s.low; simp only [List.mem_cons, List.not_mem_nil, or_false] at hi; rcases hi with rfl | rfl | rfl <;> omega) hw
theorem zeros_none (q : Nat) : newestS (fun _ => zeros) q = none0 := newest_zeros rfl rfl
theorem rv_none (w : World) : RV w (.slice none 0 0) (zb []) := ⟨none, 0, rfl, Nat.le_refl _, by simp [maxLen], fun _ => rfl, fun h => absurd rfl h⟩
theorem Tab.low {w : World} (h : Tab w) : 0 < w.heap.size := World.block_lt_of_cell? w _ (h 0 (by decide))
theorem str_cd : (str [99, 100]).toList = [99, 100] := by decide +kernel
/-- A device of n sectors, as its calls find it. -/
theorem snew_c (n : Int) (w : World) : Calls Tryd.prog 8 #[.int .i64 n] w fun e w' => ∃ d g, e = .returned (.pointer (some ⟨d, 0, none⟩)) ∧ DV w' w.heap.size d g (lenD n) (calmS (fun _ => zeros)) (lifeN 0) ∧ Below w.heap.size w w' := dnew_c n w
/-- A crash of one that is calm. -/
theorem scrash_c {w : World} {B d g n : Nat} {F : Nat → List UInt8} {L : Life} (h : DV w B d g n (calmS F) L) (kv : Value) (keep : List Bool) (hv : RV w kv (zb keep)) : Calls Tryd.prog 13 #[.pointer (some ⟨d, 0, none⟩), kv] w fun e w' => ∃ d' g', e = .returned (.pointer (some ⟨d', 0, none⟩)) ∧ DV w' w.heap.size d' g' n (calmS F) (lifeN 0) ∧ Below w.heap.size w w' := by
  have := dcrash_c h kv keep hv
  rw [crS_calm] at this
  exact this

/-- A text is saved on a device that was never fused. -/
theorem ssave_c {w : World} {B B' d g n p at_ k : Nat} {f : Found} {F : Nat → List UInt8} {v0 : Value} {l : List UInt8} (h : DV w B d g n (calmS F) (lifeN k)) (hk : k ≤ 1000) (hs : SU w B' p d at_ f) (hg : Good F at_ f) (hT : Tab w) (hat : at_ + 2 ≤ n) (hv : ∀ w', Offs [d, g] w w' → RB w' v0 l) (hl : l.length ≤ 40) (ht : f.turn ≤ 1000) (hB : 0 < B) :
    Calls Tryd.prog 11 #[.pointer (some ⟨p, 0, none⟩), v0] w fun e w' => e = .returned (.int .i64 0) ∧ ∃ F', DV w' B d g n (calmS F') (lifeN (k + 2)) ∧ SU w' B' p d at_ ⟨1 - f.slot, l, f.turn + 1⟩ ∧ Good F' at_ ⟨1 - f.slot, l, f.turn + 1⟩ ∧ Offs [d, g, p] w w' ∧ Tab w' ∧ (∀ j, j ≠ at_ → j ≠ at_ + 1 → F' j = F j) := by
  have hsl := hg.fits.slot
  refine (ssave_wr h rfl (by show (k : Int) < 999999; omega) hs hT hat hv hl (by omega) hB).mono ?_
  rintro e w' ⟨h1, h2, h3⟩
  rw [lifeN_tick, lifeN_tick] at h3
  rcases h3 with ⟨h4, -⟩ | ⟨-, rfl, h5, h6⟩
  · cases h4
  · exact ⟨rfl, _, h5, h6, hg.save hl (by omega), h1, h2, fun j h7 h8 => upF_other _ _ (by omega)⟩
/-- A text is made on a device that was never fused, where none is. -/
theorem smade_c {w : World} {B d g n at_ k : Nat} {S : Nat → Sec} {F : Nat → List UInt8} {v0 : Value} {l : List UInt8} (h : DV w B d g n S (lifeN k)) (hF : ∀ j, j < n → (S j).now = F j) (htd : Tidy S) (hk : k ≤ 1000) (hT : Tab w) (hat : at_ + 2 ≤ n) (h0 : F at_ = zeros) (h1 : F (at_ + 1) = zeros) (hv : ∀ w', Offs [d, g] w w' → RB w' v0 l) (hl : l.length ≤ 40) (hB : 0 < B) :
    Calls Tryd.prog 9 #[.pointer (some ⟨d, 0, none⟩), .int .i64 (at_ : Int), v0] w fun e w' => ∃ p, e = .returned (.tuple #[.pointer (some ⟨p, 0, none⟩), .int .i64 0]) ∧ ∃ F', DV w' B d g n (calmS F') (lifeN (k + 4)) ∧ SU w' w.heap.size p d at_ ⟨0, l, 1⟩ ∧ Good F' at_ ⟨0, l, 1⟩ ∧ Offs [d, g] w w' ∧ Tab w' ∧ (∀ j, j ≠ at_ → j ≠ at_ + 1 → F' j = F j) := by
  refine (smake_c h hF htd hk hT hat (newest_zeros h0 h1) hv hl hB).mono ?_
  rintro e w' ⟨p, rfl, h2, h3, h4, h5⟩
  refine ⟨p, rfl, _, h3, h2, mk_end F at_ l hl, h4, h5, fun j h7 h8 => ?_⟩
  show upF (upF F (at_ + 1) (encS l 1)) at_ (encS l 1) j = F j
  rw [upF_other _ _ h7, upF_other _ _ h8]

theorem RB.slice {w : World} {v : Value} {l : List UInt8} (h : RB w v l) : ∃ a c, v = .slice a l.length c := by
  obtain ⟨a, c, hv, -⟩ := h
  exact ⟨a, c, hv⟩
/-- In a region that draws its order. -/
theorem sturn_q {w : World} {B p d at_ : Nat} {f : Found} (h : SU w B p d at_ f) (t : Int) (ht : (f.turn : Int) = t) : Calls Tryd.prog 15 #[.pointer (some ⟨p, 0, none⟩)] w fun e w' => e = .returned (.int .i64 t) ∧ Below w.heap.size w w' := by
  subst ht
  exact (sturn_c h).mono (by rintro e w' ⟨rfl, rfl⟩; exact ⟨rfl, Below.refl _ _⟩)
theorem stext_q {w : World} {B p d at_ : Nat} {f : Found} (h : SU w B p d at_ f) (x : List UInt8) (hx : f.text = x) : Calls Tryd.prog 14 #[.pointer (some ⟨p, 0, none⟩)] w fun e w' => ∃ v, e = .returned v ∧ RB w' v x ∧ Below w.heap.size w w' := by
  subst hx
  exact (stext_c h).mono (by rintro e w' ⟨v, rfl, ho, hb⟩; exact ⟨v, rfl, ho.rb, hb⟩)

set_option maxHeartbeats 1000000 in
set_option maxRecDepth 100000 in
theorem begun_c (w : World) (hT : Tab w) : Calls Tryd.prog 7 #[] w fun e w' => e = .returned (.bool true) ∧ Below w.heap.size w w' := by
  have C1 := Go.Lib.hid (snew_c 4 w)
  have HT := Go.Lib.hid hT; clear hT
  go_enter Tryd.func7, Tryd.ntmps7
  go_wp2_with fail
  refine C1.out.mono ?_
  rintro e w1 ⟨d, g, rfl, hd1, hb1⟩
  clear C1
  rw [show lenD 4 = 4 from rfl] at hd1
  have hd2 := hd1.alloc (.cells #[.int .u8 97, .int .u8 98] 5 (2, 3))
  have hr2 := TX.lits w1 [97, 98] #[.int .u8 97, .int .u8 98] 2 rfl rfl (by decide) (2, 3)
  have hb2 := hb1.trans ((below_new w1 (.cells #[.int .u8 97, .int .u8 98] 5 (2, 3))).mono hb1.size)
  have hT2 := HT.out.below hb2
  have C2 := smade_c (at_ := 1) hd2 (fun _ _ => rfl) (Tidy.calm _) (by decide) hT2 (by decide) rfl rfl (hr2.keep hd2) (by decide) HT.out.low
  rw [show ((1 : Nat) : Int) = 1 from rfl] at C2
  have C2 := Go.Lib.hid C2
  have HB2 := Go.Lib.hid hb2
  have HD2 := Go.Lib.hid hd2
  have kc := Go.Lib.run_convert_bytes_const (P := Tryd.prog) w1 30 5 #[Value.int IntKind.u8 97, Value.int IntKind.u8 98] 2 2 Tryd.underlying30 Tryd.underlying5
  clear hd1 hb1 hd2 hr2 hb2 hT2
  go_wp2_with fail
  clear kc
  refine C2.out.mono ?_
  rintro e w3 ⟨p, rfl, F3, hd3, hs3, hg3, ho3, hT3, -⟩
  clear C2
  have hb3 := HB2.out.trans (ho3.belowDV HD2.out (Nat.le_refl _) HB2.out.size)
  have hs3 := hs3.mono HB2.out.size
  have hb4 := hb3.trans ((below_new w3 (.cells #[.int .u8 99, .int .u8 100] 5 (2, 3))).mono hb3.size)
  have hd4 := hd3.alloc (.cells #[.int .u8 99, .int .u8 100] 5 (2, 3))
  have hs4 := hs3.below (below_new w3 (.cells #[.int .u8 99, .int .u8 100] 5 (2, 3)))
  have hr4 := TX.lits w3 [99, 100] #[.int .u8 99, .int .u8 100] 2 rfl rfl (by decide) (2, 3)
  have C3 := Go.Lib.hid (ssave_c hd4 (by decide) hs4 hg3 (HT.out.below hb4) (by decide) (hr4.keep hd4) (by decide) (by decide) HT.out.low)
  have HB4 := Go.Lib.hid hb4
  have HD4 := Go.Lib.hid hd4
  have HS4 := Go.Lib.hid hs4
  have kc := Go.Lib.run_convert_bytes_const (P := Tryd.prog) w3 30 5 #[Value.int IntKind.u8 99, Value.int IntKind.u8 100] 2 2 Tryd.underlying30 Tryd.underlying5
  clear hs3 hb3 hb4 hd4 hs4 hr4 hd3 hg3 ho3 hT3 HB2 HD2
  go_wp2_with fail
  clear kc
  refine C3.out.mono ?_
  rintro e w5 ⟨rfl, F5, hd5, hs5, hg5, ho5, hT5, -⟩
  have hb5 := HB4.out.trans (ho5.belowSU HD4.out HS4.out (Nat.le_refl _) (Nat.le_refl _) HB4.out.size)
  have C4 := Go.Lib.hid (scrash_c hd5 (.slice none 0 0) [] (rv_none _))
  have HB5 := Go.Lib.hid hb5
  have HD5 := Go.Lib.hid hd5
  have HG5 := Go.Lib.hid hg5
  clear C3 hd5 hs5 hg5 ho5 hb5 HB4 HD4 HS4
  go_wp2_with fail
  refine C4.out.mono ?_
  rintro e w6 ⟨d6, g6, rfl, hd6, hb6⟩
  have hT6 := hT5.below hb6
  have C5 := sopen_c (at_ := 1) hd6 hT6 (by decide) HG5.out
  rw [show ((1 : Nat) : Int) = 1 from rfl] at C5
  have C5 := Go.Lib.hid C5
  have HB6 := Go.Lib.hid (HB5.out.trans (hb6.mono HB5.out.size))
  have HD6 := Go.Lib.hid (HD5.out.below hb6)
  have HT6 := Go.Lib.hid hT6
  clear C4 hd6 hT6 hb6 hT5 HB5 HD5 HG5
  go_wp2_with fail
  refine C5.out.mono ?_
  rintro e w7 ⟨p7, rfl, hs7, hb7⟩
  have HB7 := Go.Lib.hid (HB6.out.trans (hb7.mono HB6.out.size))
  have HD7 := Go.Lib.hid (HD6.out.below hb7)
  have HT7 := Go.Lib.hid (HT6.out.below hb7)
  have HS7 := Go.Lib.hid hs7
  have C6 := Go.Lib.hid (snew_c 4 w7)
  clear C5 hs7 hb7 HB6 HD6 HT6
  go_wp2_with fail
  refine C6.out.mono ?_
  rintro e w8 ⟨d8, g8, rfl, hd8, hb8⟩
  rw [show lenD 4 = 4 from rfl] at hd8
  have HB8 := Go.Lib.hid (HB7.out.trans (hb8.mono HB7.out.size))
  have HD8 := Go.Lib.hid (HD7.out.below hb8)
  have hT8 := HT7.out.below hb8
  have HT8 := Go.Lib.hid hT8
  have HS8 := Go.Lib.hid (HS7.out.below hb8)
  have C7 := sopen_bad (at_ := 1) hd8 hT8 (by decide) (zeros_none 1)
  rw [show ((1 : Nat) : Int) = 1 from rfl] at C7
  have C7 := Go.Lib.hid C7
  clear C6 hd8 hb8 hT8 HB7 HD7 HT7 HS7
  go_wp2_with fail
  refine C7.out.mono ?_
  rintro e w9 ⟨rfl, hb9⟩
  have HB9 := Go.Lib.hid (HB8.out.trans (hb9.mono HB8.out.size))
  have hd9 := HD8.out.below hb9
  have HS9 := Go.Lib.hid (HS8.out.below hb9)
  have C8 := Go.Lib.hid (smake_out hd9 3 (.inr (by decide)) (RB.nil w9) (by decide))
  clear C7 hb9 hd9 HB8 HD8 HT8 HS8
  go_wp2_with fail
  refine C8.out.mono ?_
  rintro e w9' ⟨rfl, rfl⟩
  have C9 := Go.Lib.hid (stext_c HS9.out)
  clear C8
  go_wp2_with fail
  refine C9.out.mono ?_
  rintro e wa ⟨x, rfl, hx, hba⟩
  have hcv := run_string_RB wa 30 5 9 Tryd.underlying30 Tryd.underlying5 Tryd.underlying9 x [99, 100] hx.rb
  have hcd := str_cd
  have Ca := Go.Lib.hid (sturn_c (HS9.out.below hba))
  have HBa := Go.Lib.hid (HB9.out.trans (hba.mono HB9.out.size))
  clear C9 hx hba HB9 HS9
  go_wp2_with fail
  refine Ca.out.mono ?_
  rintro e wa' ⟨rfl, rfl⟩
  go_wp2_with fail
  go_ret
  exact ⟨rfl, HBa.out⟩

end Go.Proofs.YtiejjiccncmeiaaDoor
