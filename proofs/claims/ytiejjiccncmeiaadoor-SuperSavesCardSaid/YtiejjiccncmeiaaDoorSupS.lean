/-
  The contracts of super's Save, Open, Make.
-/
import Derived.Test.YtiejjiccncmeiaaDoorSupL
namespace Go.Proofs.YtiejjiccncmeiaaDoor
open Go.RowKit

section
variable {w : World} {B B' d g n p at_ : Nat} {L : Life} {S : Nat → Sec} {f : Found} {F : Nat → List UInt8} {v0 : Value} {l : List UInt8}
set_option maxHeartbeats 1000000
set_option maxRecDepth 100000
theorem ssave_long (hv : RB w v0 l) (hl : 40 < l.length) : Calls Tryd.prog 11 #[.pointer (some ⟨p, 0, none⟩), v0] w fun e w' => e = .returned (.int .i64 1) ∧ w = w' := by
  obtain ⟨a, cap, rfl, h1, h2, -⟩ := hv
  unfold maxLen at h2
  have hlI : (40 : Int) < (l.length : Int) := by omega
  generalize l.length = m at *
  go_enter Tryd.func11, Tryd.ntmps11
  go_wp2_with fail
  go_ret
  exact ⟨rfl, rfl⟩
theorem ssave_dead (h : DV w B d g n (calmS F) L) (hd : L.dead = true) (hs : SU w B' p d at_ f) (hT : Tab w) (hat : at_ + 2 ≤ n) (hv : RB w v0 l) (hl : l.length ≤ 40) (ht : f.turn + 1 ≤ 1099511627776) :
    Calls Tryd.prog 11 #[.pointer (some ⟨p, 0, none⟩), v0] w fun e w' => e = .returned (.int .i64 7) ∧ Below w.heap.size w w' := by
  have C := slay_dead h hd hs hT hat hv hl ht
  rw [show ((f.turn + 1 : Nat) : Int) = (f.turn : Int) + 1 from by omega] at C
  obtain ⟨u, hu, c0, c1, c2, c3, c4⟩ := hs.cells
  obtain ⟨a, cap, rfl, -, -, -⟩ := hv
  have hlI : (l.length : Int) ≤ 40 := by omega
  have htI : IntKind.i64.wrap ((f.turn : Int) + 1) = (f.turn : Int) + 1 := by rw [IntKind.wrap_i64]; omega
  have C := Go.Lib.hid C
  generalize l.length = m at *
  generalize (f.turn : Int) = T at *
  clear h hd hs hT hat hl ht hu c0 c1 c2 c3
  go_enter Tryd.func11, Tryd.ntmps11
  go_wp2_with fail
  refine C.out.mono ?_
  rintro e w1 ⟨rfl, hb⟩
  have HB := Go.Lib.hid hb
  clear hb
  go_wp2_with fail
  go_ret
  exact ⟨rfl, HB.out⟩
theorem ssave_wr (h : DV w B d g n (calmS F) L) (hd : L.dead = false) (hc : L.calls < 999999) (hs : SU w B' p d at_ f) (hT : Tab w) (hat : at_ + 2 ≤ n) (hv : ∀ w', Offs [d, g] w w' → RB w' v0 l) (hl : l.length ≤ 40) (ht : f.turn + 1 ≤ 1099511627776) (hB : 0 < B) :
    Calls Tryd.prog 11 #[.pointer (some ⟨p, 0, none⟩), v0] w fun e w' => Offs [d, g, p] w w' ∧ Tab w' ∧
      (L.tick.dead = true ∧ e = .returned (.int .i64 7) ∧ DV w' B d g n (wrS (calmS F) (at_ + (1 - f.slot)) (encS l (f.turn + 1))) L.tick ∧ SU w' B' p d at_ f ∨
       L.tick.dead = false ∧ e = .returned (.int .i64 0) ∧ DV w' B d g n (calmS (upF F (at_ + (1 - f.slot)) (encS l (f.turn + 1)))) L.tick.tick ∧ SU w' B' p d at_ ⟨1 - f.slot, l, f.turn + 1⟩) := by
  have C := slay_wr h (fun _ _ => rfl) (Tidy.calm F) hd hc hs hT hat hv hl ht hB
  rw [show ((f.turn + 1 : Nat) : Int) = (f.turn : Int) + 1 from by omega] at C
  obtain ⟨u, hu, c0, c1, c2, c3, c4⟩ := hs.cells
  obtain ⟨a, cap, rfl, -, -, -⟩ := hv w (Offs.refl _ _)
  have hlI : (l.length : Int) ≤ 40 := by omega
  have htI : IntKind.i64.wrap ((f.turn : Int) + 1) = (f.turn : Int) + 1 := by rw [IntKind.wrap_i64]; omega
  have C := Go.Lib.hid C
  obtain ⟨m, hm⟩ : ∃ m, m = l.length := ⟨_, rfl⟩
  rw [← hm] at hlI C ⊢
  obtain ⟨T, hTT⟩ : ∃ T, T = (f.turn : Int) := ⟨_, rfl⟩
  rw [← hTT] at htI c4 C
  clear h hd hs hT hat hl ht hu c0 c1 c2 c3 hm hv hTT
  go_enter Tryd.func11, Tryd.ntmps11
  go_wp2_with fail
  refine C.out.mono ?_
  rintro e w1 ⟨ho, hT1, h1⟩
  have HO := Go.Lib.hid ho
  have HT1 := Go.Lib.hid hT1
  rcases h1 with ⟨k0, rfl, k1, k2⟩ | ⟨k0, rfl, k1, k2⟩
  · have K0 := Go.Lib.hid k0
    have K1 := Go.Lib.hid k1
    have K2 := Go.Lib.hid k2
    clear ho hT1 k0 k1 k2
    go_wp2_with fail
    go_ret
    exact ⟨HO.out, HT1.out, .inl ⟨K0.out, rfl, K1.out, K2.out⟩⟩
  · have K0 := Go.Lib.hid k0
    have K1 := Go.Lib.hid k1
    have K2 := Go.Lib.hid k2
    clear ho hT1 k0 k1 k2
    go_wp2_with fail
    go_ret
    exact ⟨HO.out, HT1.out, .inr ⟨K0.out, rfl, K1.out, K2.out⟩⟩

theorem sopen_out (h : DV w B d g n S L) (i : Int) (hi : i < 0 ∨ (n : Int) - 2 < i) : Calls Tryd.prog 12 #[.pointer (some ⟨d, 0, none⟩), .int .i64 i] w fun e w' => e = .returned (.tuple #[.pointer none, .int .i64 3]) ∧ w = w' := by
  have C := sboth_c h i
  rw [show (decide (0 ≤ i) && decide (i ≤ (n : Int) - 2)) = false from by rcases hi with hi | hi <;> simp <;> omega] at C
  have C := Go.Lib.hid C
  clear h hi
  go_enter Tryd.func12, Tryd.ntmps12
  go_wp2_with fail
  refine C.out.mono ?_
  rintro e w1 ⟨rfl, rfl⟩
  go_wp2_with fail
  go_ret2
  exact ⟨rfl, rfl⟩
theorem sopen_c (h : DV w B d g n (calmS F) L) (hT : Tab w) (hat : at_ + 2 ≤ n) (hf : Good F at_ f) : Calls Tryd.prog 12 #[.pointer (some ⟨d, 0, none⟩), .int .i64 (at_ : Int)] w fun e w' => ∃ p, e = .returned (.tuple #[.pointer (some ⟨p, 0, none⟩), .int .i64 0]) ∧ SU w' w.heap.size p d at_ f ∧ Below w.heap.size w w' := by
  have C := sboth_c h (at_ : Int)
  rw [show (decide (0 ≤ (at_ : Int)) && decide ((at_ : Int) ≤ (n : Int) - 2)) = true from by simp; omega] at C
  have C2 := snewest_c (F := F) h (fun _ _ => rfl) hT hat
  rw [hf.found] at C2
  have C := Go.Lib.hid C
  have C2 := Go.Lib.hid C2
  have h1 := hf.one
  clear h hT hat hf
  go_enter Tryd.func12, Tryd.ntmps12
  go_wp2_with fail
  refine C.out.mono ?_
  rintro e w1 ⟨rfl, rfl⟩
  go_wp2_with fail
  refine C2.out.mono ?_
  rintro e w1 ⟨p, rfl, hs, hb⟩
  obtain ⟨u, hu, c0, c1, c2, c3, c4⟩ := hs.cells
  have HS := Go.Lib.hid hs
  have HB := Go.Lib.hid hb
  have h1I : ((f.turn : Int) == 0) = false := by simp; omega
  generalize (f.turn : Int) = t at c4 h1I
  clear hu c0 c1 c2 c3 hs hb h1
  go_wp2_with fail
  go_ret2
  exact ⟨p, rfl, HS.out, HB.out⟩
theorem sopen_bad (h : DV w B d g n (calmS F) L) (hT : Tab w) (hat : at_ + 2 ≤ n) (hf : newestS F at_ = none0) : Calls Tryd.prog 12 #[.pointer (some ⟨d, 0, none⟩), .int .i64 (at_ : Int)] w fun e w' => e = .returned (.tuple #[.pointer none, .int .i64 8]) ∧ Below w.heap.size w w' := by
  have C := sboth_c h (at_ : Int)
  rw [show (decide (0 ≤ (at_ : Int)) && decide ((at_ : Int) ≤ (n : Int) - 2)) = true from by simp; omega] at C
  have C2 := snewest_c (F := F) h (fun _ _ => rfl) hT hat
  rw [hf] at C2
  have C := Go.Lib.hid C
  have C2 := Go.Lib.hid C2
  clear h hT hat hf
  go_enter Tryd.func12, Tryd.ntmps12
  go_wp2_with fail
  refine C.out.mono ?_
  rintro e w1 ⟨rfl, rfl⟩
  go_wp2_with fail
  refine C2.out.mono ?_
  rintro e w1 ⟨p, rfl, hs, hb⟩
  obtain ⟨u, hu, c0, c1, c2, c3, c4⟩ := hs.cells
  have HB := Go.Lib.hid hb
  rw [show ((none0.turn : Nat) : Int) = 0 from rfl] at c4
  clear hu c0 c1 c2 c3 hs hb
  go_wp2_with fail
  go_ret2
  exact ⟨rfl, HB.out⟩

theorem smake_long (dv : Value) (i : Int) (hv : RB w v0 l) (hl : 40 < l.length) : Calls Tryd.prog 9 #[dv, .int .i64 i, v0] w fun e w' => e = .returned (.tuple #[.pointer none, .int .i64 1]) ∧ w = w' := by
  obtain ⟨a, cap, rfl, h1, h2, -⟩ := hv
  unfold maxLen at h2
  have hlI : (40 : Int) < (l.length : Int) := by omega
  generalize l.length = m at *
  go_enter Tryd.func9, Tryd.ntmps9
  go_wp2_with fail
  go_ret2
  exact ⟨rfl, rfl⟩
theorem smake_out (h : DV w B d g n S L) (i : Int) (hi : i < 0 ∨ (n : Int) - 2 < i) (hv : RB w v0 l) (hl : l.length ≤ 40) : Calls Tryd.prog 9 #[.pointer (some ⟨d, 0, none⟩), .int .i64 i, v0] w fun e w' => e = .returned (.tuple #[.pointer none, .int .i64 3]) ∧ w = w' := by
  have C := sboth_c h i
  rw [show (decide (0 ≤ i) && decide (i ≤ (n : Int) - 2)) = false from by rcases hi with hi | hi <;> simp <;> omega] at C
  have C := Go.Lib.hid C
  obtain ⟨a, cap, rfl, h1, h2, -⟩ := hv
  have hlI : (l.length : Int) ≤ 40 := by omega
  generalize l.length = m at *
  clear h hi h1 h2
  go_enter Tryd.func9, Tryd.ntmps9
  go_wp2_with fail
  refine C.out.mono ?_
  rintro e w1 ⟨rfl, rfl⟩
  go_wp2_with fail
  go_ret2
  exact ⟨rfl, rfl⟩

/-- Make's loop: what it holds when i of the two sectors have been laid; the sectors. -/
def mkT (l : List UInt8) : Nat → Found
  | 0 => none0
  | 1 => ⟨1, l, 1⟩
  | _ => ⟨0, l, 1⟩
def mkF (F : Nat → List UInt8) (q : Nat) (l : List UInt8) : Nat → Nat → List UInt8
  | 0 => F
  | 1 => upF F (q + 1) (encS l 1)
  | _ => upF (upF F (q + 1) (encS l 1)) q (encS l 1)
theorem mk_step (F : Nat → List UInt8) (q : Nat) (l : List UInt8) (i : Nat) (hi : i < 2) : upF (mkF F q l i) (q + (1 - (mkT l i).slot)) (encS l 1) = mkF F q l (i + 1) ∧ (⟨1 - (mkT l i).slot, l, 1⟩ : Found) = mkT l (i + 1) := by
  rcases (show i = 0 ∨ i = 1 by omega) with rfl | rfl <;> exact ⟨rfl, rfl⟩
theorem mk_end (F : Nat → List UInt8) (q : Nat) (l : List UInt8) (hl : l.length ≤ 40) : Good (mkF F q l 2) q (mkT l 2) := Good.made F q l hl
/-- The sectors while Make goes on: ahead of its first Flush they may be loose. -/
def mkS (S : Nat → Sec) (F : Nat → List UInt8) (q : Nat) (l : List UInt8) : Nat → Nat → Sec
  | 0 => S
  | i + 1 => calmS (mkF F q l (i + 1))
theorem mkS_now {S : Nat → Sec} {F : Nat → List UInt8} {n : Nat} (hF : ∀ j, j < n → (S j).now = F j) (q : Nat) (l : List UInt8) : ∀ i j, j < n → (mkS S F q l i j).now = mkF F q l i j
  | 0, j, hj => hF j hj
  | _ + 1, _, _ => rfl
theorem mkS_tidy {S : Nat → Sec} (h : Tidy S) (F : Nat → List UInt8) (q : Nat) (l : List UInt8) : ∀ i, Tidy (mkS S F q l i)
  | 0 => h
  | _ + 1 => Tidy.calm _
theorem smake_c {k : Nat} (h : DV w B d g n S (lifeN k)) (hF : ∀ j, j < n → (S j).now = F j) (htd : Tidy S) (hk : k ≤ 1000) (hT : Tab w) (hat : at_ + 2 ≤ n) (hf : newestS F at_ = none0) (hv : ∀ w', Offs [d, g] w w' → RB w' v0 l) (hl : l.length ≤ 40) (hB : 0 < B) :
    Calls Tryd.prog 9 #[.pointer (some ⟨d, 0, none⟩), .int .i64 (at_ : Int), v0] w fun e w' => ∃ p, e = .returned (.tuple #[.pointer (some ⟨p, 0, none⟩), .int .i64 0]) ∧ SU w' w.heap.size p d at_ (mkT l 2) ∧ DV w' B d g n (calmS (mkF F at_ l 2)) (lifeN (k + 4)) ∧ Offs [d, g] w w' ∧ Tab w' := by
  have C := sboth_c h (at_ : Int)
  rw [show (decide (0 ≤ (at_ : Int)) && decide ((at_ : Int) ≤ (n : Int) - 2)) = true from by simp; omega] at C
  have C2 := snewest_c h hF hT hat
  rw [hf] at C2
  have C := Go.Lib.hid C
  have C2 := Go.Lib.hid C2
  obtain ⟨a, cap, rfl, -, -, -⟩ := hv w (Offs.refl _ _)
  have hlI : (l.length : Int) ≤ 40 := by omega
  have HL := Go.Lib.hid hl
  have HV := Go.Lib.hid hv
  obtain ⟨m, hm⟩ : ∃ m, m = l.length := ⟨_, rfl⟩
  rw [← hm] at hlI HV ⊢
  have H := Go.Lib.hid h
  have HT := Go.Lib.hid hT
  have HB := Go.Lib.hid hB
  have HK := Go.Lib.hid hk
  have HA := Go.Lib.hid hat
  have HF := Go.Lib.hid hF
  have HTD := Go.Lib.hid htd
  clear hF htd
  clear h hk hT hat hf hv hl hm hB
  go_enter Tryd.func9, Tryd.ntmps9
  go_wp2_with fail
  refine C.out.mono ?_
  rintro e w1 ⟨rfl, rfl⟩
  go_wp2_with fail
  refine C2.out.mono ?_
  rintro e w1 ⟨p, rfl, hs1, hb1⟩
  have HS1 := Go.Lib.hid hs1
  have HD1 := Go.Lib.hid (H.out.below hb1)
  have HT1 := Go.Lib.hid (HT.out.below hb1)
  have HO1 : Hid (Offs [d, g] w w1) := Go.Lib.hid (Offs.of_below hb1)
  clear hs1 hb1 C C2
  go_wp2_with fail
  go_loopw [9, 22] (fun _ iv wr => ∃ i : Nat, i ≤ 2 ∧ iv = .int .i64 (i : Int) ∧ SU wr w.heap.size p d at_ (mkT l i) ∧ DV wr B d g n (mkS S F at_ l i) (lifeN (k + 2 * i)) ∧ Offs [d, g] w wr ∧ Tab wr) (fun _ iv _ => 2 - (intOf iv).toNat)
  case atStart => exact ⟨0, by omega, rfl, HS1.out, HD1.out, HO1.out, HT1.out⟩
  case round =>
    obtain ⟨i, hi, rfl, hsi, hdi, hoi, hti⟩ := hrel
    by_cases hlt : i < 2
    · have hvi : ∀ w', Offs [d, g] wr w' → RB w' (.slice a m cap) l := fun w' ho => HV.out w' (hoi.trans ho)
      have hst := mk_step F at_ l i hlt
      have CL := slay_wr (t := 1) hdi (mkS_now HF.out at_ l i) (mkS_tidy HTD.out F at_ l i) rfl (by show ((k + 2 * i : Nat) : Int) < 999999; have := HK.out; omega) hsi hti HA.out hvi HL.out (by omega) HB.out
      rw [show ((1 : Nat) : Int) = 1 from rfl] at CL
      rw [hst.1, hst.2, lifeN_tick, lifeN_tick] at CL
      have CL := Go.Lib.hid CL
      have Hi := Go.Lib.hid hlt
      have HOI := Go.Lib.hid hoi
      have Hlow := Go.Lib.hid hsi.low
      clear hvi hst hsi hdi hti hoi
      go_wp2_with fail
      refine CL.out.mono ?_
      rintro e w2 ⟨ho2, hT2, h2⟩
      rcases h2 with ⟨k0, -, -, -⟩ | ⟨k0, rfl, k1, k2⟩
      · cases k0
      · have HO2 := Go.Lib.hid (HOI.out.new ho2 (by intro j hj; simp only [List.mem_cons, List.not_mem_nil, or_false] at hj ⊢; rcases hj with rfl | rfl | rfl; exact .inl (.inl rfl); exact .inl (.inr rfl); exact .inr Hlow.out))
        have HT2 := Go.Lib.hid hT2
        have K1 := Go.Lib.hid k1
        have K2 := Go.Lib.hid k2
        clear ho2 hT2 k1 k2 k0 CL
        go_wp2_with fail
        go_roundw
        case rel => exact ⟨i + 1, Hi.out, by go_num, K2.out, K1.out, HO2.out, HT2.out⟩
        case measure => have := Hi.out; simp [intOf]; omega
    · obtain rfl : i = 2 := by omega
      have HSI := Go.Lib.hid hsi
      have HDI := Go.Lib.hid hdi
      have HOI := Go.Lib.hid hoi
      have HTI := Go.Lib.hid hti
      clear hsi hdi hoi hti
      go_wp2_with fail
      go_ret2
      exact ⟨p, rfl, HSI.out, HDI.out, HOI.out, HTI.out⟩
end

end Go.Proofs.YtiejjiccncmeiaaDoor
