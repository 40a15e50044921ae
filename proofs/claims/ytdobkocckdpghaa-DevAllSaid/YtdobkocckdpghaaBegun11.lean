/-
  The laws' begun of dev: true, whatever the memory.
-/
import Derived.Test.YtdobkocckdpghaaDevC
import Derived.Test.YtdobkocckdpghaaDevR
namespace Go.Proofs.Ytdobkocckdpghaa
open Go.RowKit

theorem below_new (w : World) (o : Obj) : Below w.heap.size w (w.alloc o) := (Below.refl _ _).alloc (Nat.le_refl _) o
theorem DV.alloc {w : World} {B d g n : Nat} {S : Nat → Sec} {L : Life} (h : DV w B d g n S L) (o : Obj) : DV (w.alloc o) B d g n S L := h.below (below_new w o)
/-- A byte of a row of the call's own. -/
theorem Own.get {e : TypeId} {w : World} {B : Nat} {v : Value} {l : List UInt8} (h : Own e w B v l) (k : Nat) (x : UInt8) (hk : l[k]? = some x) : ∃ g cap, v = .slice (some ⟨g, 0, none⟩) l.length cap ∧ w.cell? ⟨g, k, none⟩ = some (.int .u8 (x.toNat : Int)) ∧ B ≤ g ∧ g < w.heap.size := by
  obtain ⟨hk1, hk2⟩ := List.getElem?_eq_some_iff.1 hk
  obtain ⟨g, cap, rfl, h1, h2, -⟩ := h.form (by omega)
  have := h.cell k hk1
  rw [hk2] at this
  exact ⟨g, cap, rfl, this, h1, h2⟩

theorem DV.twoAbove {w w' : World} {B d g n d' g' : Nat} {S : Nat → Sec} {L : Life} (h : DV w B d g n S L) (hk : Two d' (some g') w w') (h1 : d' < B) (h2 : g' < B) : DV w' B d g n S L :=
  h.two hk (by have := h.lowd; omega) (by have := h.lowd; omega) (by have := h.lowg; omega) (by have := h.lowg; omega)
theorem Two.cell {w w' : World} {d g : Nat} (hk : Two d (some g) w w') {p : Addr} {v : Value} (h : w.cell? p = some v) (h1 : p.block ≠ d) (h2 : p.block ≠ g) : w'.cell? p = some v :=
  (World.cell?_of_block (w := w) (hk.block p.block (World.block_lt_of_cell? w _ h) h1 (by simpa using h2))).trans h
theorem byte_of (k : Nat) (h : k < 256) : (k : Int) = ((UInt8.ofNat k).toNat : Int) := by
  rw [UInt8.toNat_ofNat']
  omega
theorem byte_succ (k : Nat) (h : k < 255) : (k : Int) + 1 = ((UInt8.ofNat (k + 1)).toNat : Int) := by
  rw [← byte_of (k + 1) (by omega)]
  omega
/-- The life of a device that was never fused, behind k calls. -/
def lifeN (k : Nat) : Life := ⟨(k : Int), false, 0, false⟩
theorem lifeN_zero : born = lifeN 0 := rfl
theorem lifeN_tick (k : Nat) : (lifeN k).tick = lifeN (k + 1) := by unfold lifeN Life.tick; simp
theorem b11_1 : looseL (lf (wrS newS 1 [97, 98])) 3 = [1] := by decide +kernel
theorem b11_2 : (crS (wrS newS 1 [97, 98]) [] 1).now[0]? = some 0 := by decide +kernel
theorem b11_3 : (crS (wrS newS 1 [97, 98]) [true] 1).now[1]? = some 98 := by decide +kernel
theorem b11_4 : (crS (wrS newS 1 [97, 98]) [] 1).now.length = 64 := by decide +kernel
theorem b11_5 : (crS (wrS newS 1 [97, 98]) [true] 1).now.length = 64 := by decide +kernel
theorem b11_6 : born.tick.fuseTo 0 = ⟨1, true, 0, true⟩ := by simp [born, Life.tick, Life.fuseTo]

set_option maxHeartbeats 1000000 in
set_option maxRecDepth 100000 in
theorem begun_c (w : World) : Calls Try.prog 9 #[] w fun e w' => e = .returned (.bool true) ∧ Below w.heap.size w w' := by
  have C1 := Go.Lib.hid (dnew_c 3 w)
  go_enter Try.func9, Try.ntmps9
  go_wp2_with fail
  refine C1.out.mono ?_
  rintro e w1 ⟨d, g, rfl, hd1, hb1⟩
  clear C1
  rw [show lenD 3 = 3 from rfl] at hd1
  have C2 := Go.Lib.hid (dlen_c hd1)
  have HD1 := Go.Lib.hid hd1
  have HB1 := Go.Lib.hid hb1
  clear hd1 hb1
  go_wp2_with fail
  refine C2.out.mono ?_
  rintro e w1' ⟨rfl, rfl⟩
  clear C2
  have hd2 := HD1.out.alloc (.cells #[.int .u8 97, .int .u8 98] 5 (2, 3))
  have hr2 := RB.lits w1 5 (2, 3) [97, 98] #[.int .u8 97, .int .u8 98] 2 rfl rfl (by decide)
  have C3 := Go.Lib.hid (dwrite_c hd2 rfl (by decide) 1 (by decide) _ [97, 98] hr2 (by decide))
  have HB2 := Go.Lib.hid (HB1.out.trans ((below_new w1 (.cells #[.int .u8 97, .int .u8 98] 5 (2, 3))).mono HB1.out.size))
  have HD2 := Go.Lib.hid hd2
  have kc := Go.Lib.run_convert_bytes_const (P := Try.prog) w1 31 5 #[Value.int IntKind.u8 97, Value.int IntKind.u8 98] 2 2 Try.underlying31 Try.underlying5
  clear hd2 hr2
  go_wp2_with fail
  clear kc
  refine C3.out.mono ?_
  rintro e w3 ⟨rfl, hd3, ht3⟩
  have HB3 := Go.Lib.hid (HB2.out.trans (ht3.belowDV HD2.out HB2.out.size))
  clear C3 HB1 HB2 HD1 HD2 ht3
  have C4 := Go.Lib.hid (dloose_c hd3)
  rw [b11_1] at C4
  have HD3 := Go.Lib.hid hd3
  clear hd3
  go_wp2_with fail
  refine C4.out.mono ?_
  rintro e w4 ⟨l, rfl, hl4, hb4⟩
  clear C4
  obtain ⟨lg, lcap, rfl, -, hlB, hlc⟩ := hl4.open (by decide)
  have hl0 : w4.cell? ⟨lg, 0, none⟩ = some (.int .i64 1) := hlc 0 (by decide)
  have hlgd := Go.Lib.hid (show lg ≠ d from by have := HD3.out.lt; omega)
  have hlgg := Go.Lib.hid (show lg ≠ g from by have := HD3.out.ltg; omega)
  rw [show (zi .i64 [1]).length = 1 from rfl]
  clear hl4 hlc
  have hd4 := HD3.out.below hb4
  have HB4 := Go.Lib.hid (HB3.out.trans (hb4.mono HB3.out.size))
  have hd4lt := Go.Lib.hid hd4.lt
  have hg4lt := Go.Lib.hid hd4.ltg
  clear HD3 HB3 hb4 hlB
  have C5 := Go.Lib.hid (dcrash_c hd4 (.slice none 0 0) [] ⟨none, 0, rfl, Nat.le_refl _, by simp [maxLen], fun _ => rfl, fun h => absurd rfl h⟩)
  have HD4 := Go.Lib.hid hd4
  clear hd4
  go_wp2_with fail
  refine C5.out.mono ?_
  rintro e w5 ⟨d5, g5, rfl, he5, hb5⟩
  clear C5
  have HB5 := Go.Lib.hid (HB4.out.trans (hb5.mono HB4.out.size))
  have hl0 := (hb5.cell (p := ⟨lg, 0, none⟩) (World.block_lt_of_cell? w4 _ hl0)).trans hl0
  have hd5 := (HD4.out.below hb5).alloc (.cells #[.bool true] 4)
  have he5 := he5.alloc (.cells #[.bool true] 4)
  have HB6 := Go.Lib.hid (HB5.out.trans ((below_new w5 (.cells #[.bool true] 4)).mono HB5.out.size))
  have hl0 := ((below_new w5 (.cells #[.bool true] 4)).cell (p := ⟨lg, 0, none⟩) (World.block_lt_of_cell? w5 _ hl0)).trans hl0
  have C6 := Go.Lib.hid (dcrash_c hd5 _ [true] (RV.zbOne w5 4 true))
  have HD5 := Go.Lib.hid hd5
  have HE5 := Go.Lib.hid he5
  have HL0 := Go.Lib.hid hl0
  clear hd5 he5 hb5 HB4 HB5 HD4 hl0
  go_wp2_with fail
  refine C6.out.mono ?_
  rintro e w6 ⟨d6, g6, rfl, hf6, hb6⟩
  clear C6
  have HB7 := Go.Lib.hid (HB6.out.trans (hb6.mono HB6.out.size))
  have hd6 := HD5.out.below hb6
  have he6 := HE5.out.below hb6
  have HL6 := Go.Lib.hid ((hb6.cell (p := ⟨lg, 0, none⟩) (World.block_lt_of_cell? _ _ HL0.out)).trans HL0.out)
  have C7 := Go.Lib.hid (dread_c he6 1 (by decide))
  have HD6 := Go.Lib.hid hd6
  have HE6 := Go.Lib.hid he6
  have HF6 := Go.Lib.hid hf6
  clear hd6 he6 hf6 hb6 HB6 HD5 HE5 HL0
  go_wp2_with fail
  refine C7.out.mono ?_
  rintro e w7 ⟨x, rfl, hx7, hb7⟩
  clear C7
  obtain ⟨xg, xcap, rfl, hx0, hxB, hxl⟩ := hx7.get 0 0 b11_2
  have hxgd := Go.Lib.hid (show xg ≠ d from by have := HD6.out.lt; omega)
  have hxgg := Go.Lib.hid (show xg ≠ g from by have := HD6.out.ltg; omega)
  rw [b11_4]
  have HB8 := Go.Lib.hid (HB7.out.trans (hb7.mono HB7.out.size))
  have hd7 := HD6.out.below hb7
  have he7 := HE6.out.below hb7
  have hf7 := HF6.out.below hb7
  have HL7 := Go.Lib.hid ((hb7.cell (p := ⟨lg, 0, none⟩) (World.block_lt_of_cell? _ _ HL6.out)).trans HL6.out)
  have C8 := Go.Lib.hid (dread_c hf7 1 (by decide))
  have HD7 := Go.Lib.hid hd7
  have HE7 := Go.Lib.hid he7
  have HX7 := Go.Lib.hid hx0
  clear hd7 he7 hf7 hb7 HB7 HD6 HE6 HF6 HL6 hx7 hx0 hxl hxB
  go_wp2_with fail
  refine C8.out.mono ?_
  rintro e w8 ⟨y, rfl, hy8, hb8⟩
  clear C8
  obtain ⟨yg, ycap, rfl, hy1, hyB, hyl⟩ := hy8.get 1 98 b11_3
  have hygd := Go.Lib.hid (show yg ≠ d from by have := HD7.out.lt; omega)
  have hygg := Go.Lib.hid (show yg ≠ g from by have := HD7.out.ltg; omega)
  rw [b11_5]
  have HB9 := Go.Lib.hid (HB8.out.trans (hb8.mono HB8.out.size))
  have hd8 := HD7.out.below hb8
  have he8 := HE7.out.below hb8
  have hl8 := (hb8.cell (p := ⟨lg, 0, none⟩) (World.block_lt_of_cell? _ _ HL7.out)).trans HL7.out
  have hx8 := (hb8.cell (p := ⟨xg, 0, none⟩) (World.block_lt_of_cell? _ _ HX7.out)).trans HX7.out
  have C9 := Go.Lib.hid (dfuse_c hd8 0 (by decide) (by decide))
  rw [b11_6] at C9
  have HY8 := Go.Lib.hid hy1
  have HL8 := Go.Lib.hid hl8
  have HX8 := Go.Lib.hid hx8
  have HD8 := Go.Lib.hid hd8
  have HE8 := Go.Lib.hid he8
  clear hd8 he8 hl8 hx8 hy1 hy8 hb8 hyl hyB HB8 HD7 HE7 HX7 HL7
  go_wp2_with fail
  refine C9.out.mono ?_
  rintro e w9 ⟨rfl, hd9, ht9⟩
  clear C9
  have l9 := ht9.cell HL8.out hlgd.out hlgg.out
  have x9 : w9.cell? ⟨xg, 0, none⟩ = some (.int .u8 0) := ht9.cell HX8.out hxgd.out hxgg.out
  have y9 : w9.cell? ⟨yg, 1, none⟩ = some (.int .u8 98) := ht9.cell HY8.out hygd.out hygg.out
  have he9 := HE8.out.twoAbove ht9 hd4lt.out hg4lt.out
  have HBa := Go.Lib.hid (HB9.out.trans (ht9.belowDV HD8.out HB9.out.size))
  have Ca := Go.Lib.hid (dwrite_dead hd9 rfl 9 (.slice none 0 0))
  have Cb := Go.Lib.hid (dflush_dead hd9 rfl)
  have Cc := Go.Lib.hid (dcalls_c hd9)
  have Cd := Go.Lib.hid (ddead_c hd9)
  have Ce := Go.Lib.hid (ddead_c he9)
  clear hd9 he9 ht9 HB9 HD8 HE8 HL8 HX8 HY8
  go_wp2_with fail
  refine Ca.out.mono ?_
  rintro e w9' ⟨rfl, rfl⟩
  go_wp2_with fail
  refine Cb.out.mono ?_
  rintro e w9' ⟨rfl, rfl⟩
  go_wp2_with fail
  refine Cc.out.mono ?_
  rintro e w9' ⟨rfl, rfl⟩
  go_wp2_with fail
  refine Cd.out.mono ?_
  rintro e w9' ⟨rfl, rfl⟩
  go_wp2_with fail
  refine Ce.out.mono ?_
  rintro e w9' ⟨rfl, rfl⟩
  go_wp2_with fail
  go_ret
  exact ⟨rfl, HBa.out⟩

end Go.Proofs.Ytdobkocckdpghaa
