/- SuperTwo: two texts side by side on one device do not touch one another, nor what stands beside them: for every input the law returns true. -/
import Derived.Test.YtiejjiccncmeiaaDoorCards
import Derived.Test.YtiejjiccncmeiaaDoorTie
import Derived.WalkKit
import Derived.ProofKit
import Derived.OpenShut
import Derived.ShutString
import Derived.ChangeOld
import Derived.Below
import Derived.Test.YtiejjiccncmeiaaDoorOpenB
import Derived.Test.YtiejjiccncmeiaaDoorBegun12
import Derived.Deep.DeepHandedRow
import Derived.SevenTiedAt
import Derived.LaidMore
import Derived.Stop.Joined
namespace Go.Proofs.YtiejjiccncmeiaaDoor.superTwo
open Go.ChangeShapes Go.WideShapes Go.ChangeAt Go.RowKit
open Go.ChangeMaps (open_string shut_string)
set_option linter.unusedVariables false

theorem own : ownKnob Tryd.prog.godebug = none := by kernel_rfl
theorem laidOut : laidOutB Tryd.prog = true := by kernel_rfl

def IsRow (k : IntKind) (w : World) (a : Option Addr) (len cap : Nat) (zs : List Int) : Prop :=
  (a = none ∧ len = 0 ∧ cap = 0 ∧ zs = []) ∨
  ∃ x, a = some x ∧ len ≤ cap ∧ cap ≤ maxLen ∧ zs.length = cap ∧ (∀ i, i < zs.length → w.cell? (x.add i) = some (.int k (zs.getD i 0))) ∧ ∀ n ∈ zs, (Lit.int k n).wf = true

theorem tab_of {w : World} (L : laidMetH Tryd.prog Rows.superTwoRow.laid w) : Tab w := Tab.of (Lib.tabIs_of_head (rest := []) gNib (by kernel_rfl) Tryd.underlying73 Tryd.underlying70 (by kernel_rfl) (by kernel_rfl) L)

theorem three {w : World} {B B' d g n p at_ : Nat} {S : Nat → Sec} {L : Life} {f : Found} (k : DV w B d g n S L) (s : SU w B' p d at_ f) : NoBytes w [d, g, p] := by
  intro i hi
  simp only [List.mem_cons, List.not_mem_nil, or_false] at hi
  rcases hi with rfl | rfl | rfl
  · exact k.noBytes _ (by simp)
  · exact k.noBytes _ (by simp)
  · exact s.noBytes _ (by simp)

/-- Two texts on one device behind i saves. -/
structure St2 (w : World) (B d g p q : Nat) (A C X0 X5 : List UInt8) (i m1 m2 : Nat) (F : Nat → List UInt8) : Prop where
  dv : DV w B d g 6 (calmS F) (lifeN (10 + 2 * i))
  s1 : ∃ s, SU w B p d 1 ⟨s, A, m1⟩ ∧ Good F 1 ⟨s, A, m1⟩
  s2 : ∃ s, SU w B q d 3 ⟨s, C, m2⟩ ∧ Good F 3 ⟨s, C, m2⟩
  f0 : F 0 = X0
  f5 : F 5 = X5
  ne : p ≠ q
  n1 : m1 ≤ i + 1
  n2 : m2 ≤ i + 1
section
variable {w : World} {B d g p q i m1 m2 : Nat} {A C X0 X5 : List UInt8} {F : Nat → List UInt8} {v : Value}
theorem save1 (h : St2 w B d g p q A C X0 X5 i m1 m2 F) (hi : i < 10) (hT : Tab w) (hB : 0 < B) (hw : B ≤ w.heap.size) (hv : ∀ w', Offs [d, g] w w' → RB w' v A) (hl : A.length ≤ 40) :
    Calls Tryd.prog 11 #[.pointer (some ⟨p, 0, none⟩), v] w fun e w' => e = .returned (.int .i64 0) ∧ ∃ F', St2 w' B d g p q A C X0 X5 (i + 1) (m1 + 1) m2 F' ∧ Below B w w' := by
  obtain ⟨s, hs, hg⟩ := h.s1
  obtain ⟨s', hs', hg'⟩ := h.s2
  refine (ssave_c h.dv (by omega) hs hg hT (by decide) hv hl (show m1 ≤ 1000 by have := h.n1; omega) hB).mono ?_
  rintro e w' ⟨rfl, F', hd2, hs2, hg2, ho2, hT2, hof⟩
  have hap := hs'.apart h.dv
  refine ⟨rfl, F', ⟨hd2, ⟨_, hs2, hg2⟩, ⟨s', hs'.offs ho2 (by simp [hap, Ne.symm h.ne]) (three h.dv hs), hg'.away (hof _ (by decide) (by decide)) (hof _ (by decide) (by decide))⟩, (hof _ (by decide) (by decide)).trans h.f0, (hof _ (by decide) (by decide)).trans h.f5, h.ne, ?_, ?_⟩, ho2.belowSU h.dv hs (Nat.le_refl _) (Nat.le_refl _) hw⟩
  · have := h.n1; omega
  · have := h.n2; omega
theorem save2 (h : St2 w B d g p q A C X0 X5 i m1 m2 F) (hi : i < 10) (hT : Tab w) (hB : 0 < B) (hw : B ≤ w.heap.size) (hv : ∀ w', Offs [d, g] w w' → RB w' v C) (hl : C.length ≤ 40) :
    Calls Tryd.prog 11 #[.pointer (some ⟨q, 0, none⟩), v] w fun e w' => e = .returned (.int .i64 0) ∧ ∃ F', St2 w' B d g p q A C X0 X5 (i + 1) m1 (m2 + 1) F' ∧ Below B w w' := by
  obtain ⟨s, hs, hg⟩ := h.s1
  obtain ⟨s', hs', hg'⟩ := h.s2
  refine (ssave_c h.dv (by omega) hs' hg' hT (by decide) hv hl (show m2 ≤ 1000 by have := h.n2; omega) hB).mono ?_
  rintro e w' ⟨rfl, F', hd2, hs2, hg2, ho2, hT2, hof⟩
  have hap := hs.apart h.dv
  refine ⟨rfl, F', ⟨hd2, ⟨s, hs.offs ho2 (by simp [hap, h.ne]) (three h.dv hs'), hg.away (hof _ (by decide) (by decide)) (hof _ (by decide) (by decide))⟩, ⟨_, hs2, hg2⟩, (hof _ (by decide) (by decide)).trans h.f0, (hof _ (by decide) (by decide)).trans h.f5, h.ne, ?_, ?_⟩, ho2.belowSU h.dv hs' (Nat.le_refl _) (Nat.le_refl _) hw⟩
  · have := h.n1; omega
  · have := h.n2; omega
end
theorem rb_head {w : World} {a : Option Addr} {n cap : Nat} {l : List UInt8} (h : RB w (.slice a n cap) l) (k : Nat) (hk : k ≤ l.length) (x : List UInt8) (hx : l.take k = x) : RB w (.slice a k cap) x := by
  subst hx
  obtain ⟨a', cap', hv, h1, h2, h3, h4⟩ := h
  simp only [Value.slice.injEq] at hv
  obtain ⟨rfl, rfl, rfl⟩ := hv
  refine ⟨a, cap, by rw [List.length_take, Nat.min_eq_left hk], by rw [List.length_take]; omega, h2, h3, fun hne => ?_⟩
  obtain ⟨b, o, ha, hc⟩ := h4 (by rintro rfl; simp at hne)
  exact ⟨b, o, ha, fun i hi => by rw [List.getElem_take]; exact hc i (by simp at hi; omega)⟩
theorem len_l : List.length ([108, 101, 102, 116] ++ List.replicate 60 (0 : UInt8)) = 64 := by decide
theorem len_r : List.length ([114, 105, 103, 104, 116] ++ List.replicate 59 (0 : UInt8)) = 64 := by decide
theorem take_l : List.take 4 ([108, 101, 102, 116] ++ List.replicate 60 (0 : UInt8)) = [108, 101, 102, 116] := rfl
theorem take_r : List.take 5 ([114, 105, 103, 104, 116] ++ List.replicate 59 (0 : UInt8)) = [114, 105, 103, 104, 116] := rfl
def S2 : Nat → Sec := wrS (wrS (calmS (fun _ => zeros)) 0 [108, 101, 102, 116]) 5 [114, 105, 103, 104, 116]
def F2 : Nat → List UInt8 := fun j => (S2 j).now
theorem S2_tidy : Tidy S2 := ((Tidy.calm _).wr _ _).wr _ _
theorem F2_0 : F2 0 = [108, 101, 102, 116] ++ List.replicate 60 0 := by decide +kernel
theorem F2_5 : F2 5 = [114, 105, 103, 104, 116] ++ List.replicate 59 0 := by decide +kernel

def V31 (x y gl gr cl cr m1 m2 : Nat) (A B : List UInt8) (tA tB tL tR : ByteArray) (a0 a1 : Option Addr) (len0 len1 cap0 cap1 : Nat) : Nat → World → Value → Prop
  | 115, _, v => v = .pointer (some ⟨x, 0, none⟩)
  | 116, w, v => RB w v A
  | 117, _, v => v = .string tA
  | 118, _, v => v = .slice a0 len0 cap0
  | 119, _, v => v = .string tA
  | 120, _, v => v = .bool true
  | 121, _, v => v = .bool true
  | 122, _, v => v = .pointer (some ⟨x, 0, none⟩)
  | 123, _, v => v = .int .i64 (m1 : Int)
  | 124, _, v => v = .int .i64 (m1 : Int)
  | 125, _, v => v = .bool true
  | 126, _, v => v = .bool true
  | 127, _, v => v = .bool true
  | 128, _, v => v = .pointer (some ⟨y, 0, none⟩)
  | 129, w, v => RB w v B
  | 130, _, v => v = .string tB
  | 131, _, v => v = .slice a1 len1 cap1
  | 132, _, v => v = .string tB
  | 133, _, v => v = .bool true
  | 134, _, v => v = .bool true
  | 135, _, v => v = .bool true
  | 136, _, v => v = .pointer (some ⟨y, 0, none⟩)
  | 137, _, v => v = .int .i64 (m2 : Int)
  | 138, _, v => v = .int .i64 (m2 : Int)
  | 139, _, v => v = .bool true
  | 140, _, v => v = .bool true
  | 141, _, v => v = .bool true
  | 142, _, v => v = .slice (some ⟨gl, 0, none⟩) 64 cl
  | 143, _, v => v = .slice (some ⟨gl, 0, none⟩) 4 cl
  | 144, _, v => v = .string tL
  | 145, _, v => v = .bool true
  | 146, _, v => v = .bool true
  | 147, _, v => v = .bool true
  | 148, _, v => v = .slice (some ⟨gr, 0, none⟩) 64 cr
  | 149, _, v => v = .slice (some ⟨gr, 0, none⟩) 5 cr
  | 150, _, v => v = .string tR
  | 151, _, v => v = .bool true
  | 152, _, v => v = .bool true
  | 6, _, v => v = .bool true
  | _, _, _ => True

theorem V31_below (x y gl gr cl cr m1 m2 : Nat) (A B : List UInt8) (tA tB tL tR : ByteArray) (a0 a1 : Option Addr) (len0 len1 cap0 cap1 : Nat) : ∀ (i : Nat) (w w' : World) (v : Value), V31 x y gl gr cl cr m1 m2 A B tA tB tL tR a0 a1 len0 len1 cap0 cap1 i w v → Below w.heap.size w w' → V31 x y gl gr cl cr m1 m2 A B tA tB tL tR a0 a1 len0 len1 cap0 cap1 i w' v := by
  intro i w w' v h hb
  unfold V31 at h ⊢
  split at h <;> first | exact h | trivial | exact RB.below h hb | exact Own.below h hb

set_option maxHeartbeats 4000000 in
set_option maxRecDepth 100000 in
theorem walk (w : World) (L : laidMetH Tryd.prog Rows.superTwoRow.laid w) (a0 : Option Addr) (len0 cap0 : Nat) (z0 : List Int) (w0 : IsRow .u8 w a0 len0 cap0 z0) (a1 : Option Addr) (len1 cap1 : Nat) (z1 : List Int) (w1 : IsRow .u8 w a1 len1 cap1 z1) (a2 : Option Addr) (len2 cap2 : Nat) (l2 : List Bool) (w2 : RV w (.slice a2 len2 cap2) (zb l2)) :
    Calls Tryd.prog 6 #[.slice a0 len0 cap0, .slice a1 len1 cap1, .slice a2 len2 cap2] w fun e w' => e = .returned (.bool true) ∧ Below w.heap.size w w' := by
  have hT := tab_of L
  obtain ⟨A, hla⟩ := rb_of_row w0
  obtain ⟨B, hlb⟩ := rb_of_row w1
  clear L w0 w1
  have HT := Go.Lib.hid hT; clear hT
  have HK := Go.Lib.hid w2
  have hA := hla.len
  have hB := hlb.len
  obtain ⟨a2', c2', hv2, hl2⟩ := w2.form
  simp only [Value.slice.injEq] at hv2
  obtain ⟨rfl, rfl, rfl⟩ := hv2
  rw [zb_length] at HK hl2 ⊢
  obtain ⟨nk, hnk⟩ : ∃ n, n = l2.length := ⟨_, rfl⟩
  rw [← hnk] at HK hl2 ⊢
  have Hnk := Go.Lib.hid hnk
  clear w2 hnk
  have HA := Go.Lib.hid hla
  have HB := Go.Lib.hid hlb
  clear hla hlb
  unfold maxLen at hA hB
  have hA0 : (len0 : Int) ≤ 9223372036854775807 := by omega
  have hB0 : (len1 : Int) ≤ 9223372036854775807 := by omega
  have HlA := Go.Lib.hid hA.1
  have HlB := Go.Lib.hid hB.1
  clear hA hB
  go_enter Tryd.func6, Tryd.ntmps6
  go_wp2_with fail
  refine (begun_c _ HT.out).mono ?_
  rintro e w1 ⟨rfl, hb1⟩
  have HB1 := Go.Lib.hid hb1
  clear hb1
  by_cases h1 : 40 < len0
  · go_wp2_with fail
    go_ret
    exact ⟨rfl, HB1.out⟩
  by_cases h2 : 40 < len1
  · go_wp2_with fail
    go_ret
    exact ⟨rfl, HB1.out⟩
  have HA40 : Hid (A.length ≤ 40) := Go.Lib.hid (by have := HlA.out; omega)
  have HB40 : Hid (B.length ≤ 40) := Go.Lib.hid (by have := HlB.out; omega)
  have C1 := Go.Lib.hid (snew_c 6 w1)
  rw [show lenD 6 = 6 from rfl] at C1
  go_wp2_with fail
  refine C1.out.mono ?_
  rintro e w2 ⟨d, g, rfl, hd2, hb2⟩
  have hd2 := hd2.mono HB1.out.size
  have hb2 := HB1.out.trans (hb2.mono HB1.out.size)
  have hd3 := hd2.alloc (.cells #[.int .u8 108, .int .u8 101, .int .u8 102, .int .u8 116] 5 (4, 5))
  have hr3 := RB.lits w2 5 (4, 5) [108, 101, 102, 116] #[.int .u8 108, .int .u8 101, .int .u8 102, .int .u8 116] 4 rfl rfl (by decide)
  have hb3 := hb2.trans ((below_new w2 (.cells #[.int .u8 108, .int .u8 101, .int .u8 102, .int .u8 116] 5 (4, 5))).mono hb2.size)
  have C2 := dwrite_c hd3 rfl (by decide) 0 (by decide) _ [108, 101, 102, 116] hr3 (by decide)
  rw [show ((0 : Nat) : Int) = 0 from rfl] at C2
  have C2 := Go.Lib.hid C2
  have HD3 := Go.Lib.hid hd3
  have HB3 := Go.Lib.hid hb3
  have kc := Go.Lib.run_convert_bytes_const (P := Tryd.prog) w2 30 5 #[Value.int IntKind.u8 108, Value.int IntKind.u8 101, Value.int IntKind.u8 102, Value.int IntKind.u8 116] 4 4 Tryd.underlying30 Tryd.underlying5
  clear C1 hd2 hb2 hd3 hr3 hb3
  go_wp2_with fail
  clear kc
  refine C2.out.mono ?_
  rintro e w4 ⟨rfl, hd4, ht4⟩
  have hb4 := HB3.out.trans (ht4.belowDV HD3.out HB3.out.size)
  have hd5 := hd4.alloc (.cells #[.int .u8 114, .int .u8 105, .int .u8 103, .int .u8 104, .int .u8 116] 5 (5, 6))
  have hr5 := RB.lits w4 5 (5, 6) [114, 105, 103, 104, 116] #[.int .u8 114, .int .u8 105, .int .u8 103, .int .u8 104, .int .u8 116] 5 rfl rfl (by decide)
  have hb5 := hb4.trans ((below_new w4 (.cells #[.int .u8 114, .int .u8 105, .int .u8 103, .int .u8 104, .int .u8 116] 5 (5, 6))).mono hb4.size)
  have C3 := dwrite_c hd5 rfl (by decide) 5 (by decide) _ [114, 105, 103, 104, 116] hr5 (by decide)
  rw [show ((5 : Nat) : Int) = 5 from rfl] at C3
  have C3 := Go.Lib.hid C3
  have HD5 := Go.Lib.hid hd5
  have HB5 := Go.Lib.hid hb5
  have kc := Go.Lib.run_convert_bytes_const (P := Tryd.prog) w4 30 5 #[Value.int IntKind.u8 114, Value.int IntKind.u8 105, Value.int IntKind.u8 103, Value.int IntKind.u8 104, Value.int IntKind.u8 116] 5 5 Tryd.underlying30 Tryd.underlying5
  clear C2 ht4 hd4 hb4 hd5 hr5 hb5 HD3 HB3
  go_wp2_with fail
  clear kc
  refine C3.out.mono ?_
  rintro e w6 ⟨rfl, hd6, ht6⟩
  have hb6 := HB5.out.trans (ht6.belowDV HD5.out HB5.out.size)
  have hd6 : DV w6 w.heap.size d g 6 S2 (lifeN 2) := by rw [lifeN_tick, lifeN_tick] at hd6; exact hd6
  have C4 := smade_c (at_ := 1) (F := F2) hd6 (fun _ _ => rfl) S2_tidy (by decide) (HT.out.below hb6) (by decide) (by decide +kernel) (by decide +kernel) (HA.out.keep hb6 hd6 (Nat.le_refl _)) HA40.out HT.out.low
  rw [show ((1 : Nat) : Int) = 1 from rfl] at C4
  have C4 := Go.Lib.hid C4
  have HD6 := Go.Lib.hid hd6
  have HB6 := Go.Lib.hid hb6
  clear C3 ht6 hd6 hb6 HD5 HB5
  go_wp2_with fail
  refine C4.out.mono ?_
  rintro e w7 ⟨p, rfl, F3, hd7, hs7, hg7, ho7, hT7, hof7⟩
  have hs7 := hs7.mono HB6.out.size
  have hb7 := HB6.out.trans (ho7.belowDV HD6.out (Nat.le_refl _) HB6.out.size)
  have C5 := smade_c (at_ := 3) hd7 (fun _ _ => rfl) (Tidy.calm _) (by decide) hT7 (by decide) ((hof7 3 (by decide) (by decide)).trans (by decide +kernel)) ((hof7 4 (by decide) (by decide)).trans (by decide +kernel)) (HB.out.keep hb7 hd7 (Nat.le_refl _)) HB40.out HT.out.low
  rw [show ((3 : Nat) : Int) = 3 from rfl] at C5
  have C5 := Go.Lib.hid C5
  have HD7 := Go.Lib.hid hd7
  have HB7 := Go.Lib.hid hb7
  have HS7 := Go.Lib.hid hs7
  have HG7 := Go.Lib.hid hg7
  have H0 := Go.Lib.hid ((hof7 0 (by decide) (by decide)).trans F2_0)
  have H5 := Go.Lib.hid ((hof7 5 (by decide) (by decide)).trans F2_5)
  clear C4 hd7 hs7 hg7 ho7 hT7 hof7 hb7 HD6 HB6
  go_wp2_with fail
  refine C5.out.mono ?_
  rintro e w8 ⟨q, rfl, F4, hd8, hs8, hg8, ho8, hT8, hof8⟩
  have hpq : p ≠ q := by have h3 := HS7.out.lt; have h4 := hs8.low; omega
  have hb8 := HB7.out.trans (ho8.belowDV HD7.out (Nat.le_refl _) HB7.out.size)
  have hs7' := HS7.out.offs ho8 (by have := HS7.out.apart HD7.out; simp [this]) HD7.out.noBytes
  have hs8 := hs8.mono HB7.out.size
  have H8 : Hid (St2 w8 w.heap.size d g p q A B ([108, 101, 102, 116] ++ List.replicate 60 0) ([114, 105, 103, 104, 116] ++ List.replicate 59 0) 0 1 1 F4) :=
    ⟨hd8, ⟨_, hs7', HG7.out.away (hof8 _ (by decide) (by decide)) (hof8 _ (by decide) (by decide))⟩, ⟨_, hs8, hg8⟩, (hof8 0 (by decide) (by decide)).trans H0.out, (hof8 5 (by decide) (by decide)).trans H5.out, hpq, by decide, by decide⟩
  have HB8 := Go.Lib.hid hb8
  clear C5 hd8 hs8 hg8 ho8 hT8 hof8 hb8 hs7' hpq HD7 HB7 HS7 HG7 H0 H5
  go_wp2_with fail
  go_loopw [10, 13, 14, 15] (fun _ nv mv iv wr => ∃ (i m1 m2 : Nat) (F : Nat → List UInt8), i ≤ 10 ∧ i ≤ nk ∧ iv = .int .i64 (i : Int) ∧ nv = .int .i64 (m1 : Int) ∧ mv = .int .i64 (m2 : Int) ∧ St2 wr w.heap.size d g p q A B ([108, 101, 102, 116] ++ List.replicate 60 0) ([114, 105, 103, 104, 116] ++ List.replicate 59 0) i m1 m2 F ∧ Below w.heap.size w wr) (fun _ _ _ iv _ => 10 - (intOf iv).toNat)
  case atStart => exact ⟨0, 1, 1, F4, by omega, by omega, rfl, rfl, rfl, H8.out, HB8.out⟩
  case round =>
    obtain ⟨i, m1, m2, F, hi10', hik', rfl, rfl, rfl, hst, hbw⟩ := hrel
    by_cases hin : i < nk ∧ i < 10
    · obtain ⟨hik, hi10⟩ := hin
      have Hik := Go.Lib.hid hik
      have Hi10 := Go.Lib.hid hi10
      have hikI : (i : Int) < (nk : Int) := by omega
      obtain ⟨bk, ok, rfl, hck', -⟩ := (HK.out.below hbw).zbAt i (by rw [← Hnk.out]; exact hik)
      obtain ⟨bb, hck⟩ : ∃ bb, wr.cell? ⟨bk, ok + i, none⟩ = some (.bool bb) := ⟨_, hck'⟩
      clear hck'
      clear hi10' hik' hik
      cases bb with
      | true =>
        have C6 := Go.Lib.hid (save1 hst hi10 (HT.out.below hbw) HT.out.low hbw.size (HA.out.keep hbw hst.dv (Nat.le_refl _)) HA40.out)
        have HBW := Go.Lib.hid hbw
        have hm1 : (m1 : Int) ≤ 1000 := by have := hst.n1; omega
        have hm2 : (m2 : Int) ≤ 1000 := by have := hst.n2; omega
        clear hst hbw H8 HB8
        go_wp2_with fail
        refine C6.out.mono ?_
        rintro e w9 ⟨rfl, F9, hst9, hb9⟩
        have HBX := Go.Lib.hid (HBW.out.trans hb9)
        have HST := Go.Lib.hid hst9
        clear C6 hst9 hb9 HBW
        go_wp2_with fail
        go_roundw
        case rel => exact ⟨i + 1, m1 + 1, m2, F9, by have := Hi10.out; omega, by have := Hik.out; omega, by go_num, by first | rfl | go_num, by first | rfl | go_num, HST.out, HBX.out⟩
        case measure => have := Hi10.out; simp [intOf]; omega
      | false =>
        have C6 := Go.Lib.hid (save2 hst hi10 (HT.out.below hbw) HT.out.low hbw.size (HB.out.keep hbw hst.dv (Nat.le_refl _)) HB40.out)
        have HBW := Go.Lib.hid hbw
        have hm1 : (m1 : Int) ≤ 1000 := by have := hst.n1; omega
        have hm2 : (m2 : Int) ≤ 1000 := by have := hst.n2; omega
        clear hst hbw H8 HB8
        go_wp2_with fail
        refine C6.out.mono ?_
        rintro e w9 ⟨rfl, F9, hst9, hb9⟩
        have HBX := Go.Lib.hid (HBW.out.trans hb9)
        have HST := Go.Lib.hid hst9
        clear C6 hst9 hb9 HBW
        go_wp2_with fail
        go_roundw
        case rel => exact ⟨i + 1, m1, m2 + 1, F9, by have := Hi10.out; omega, by have := Hik.out; omega, by go_num, by first | rfl | go_num, by first | rfl | go_num, HST.out, HBX.out⟩
        case measure => have := Hi10.out; simp [intOf]; omega
    · have C7 := Go.Lib.hid (scrash_c hst.dv (.slice none 0 0) [] (rv_none _))
      obtain ⟨sa, hsa, hga⟩ := hst.s1
      obtain ⟨sb, hsb, hgb⟩ := hst.s2
      have HGA := Go.Lib.hid hga
      have HGB := Go.Lib.hid hgb
      have HBW := Go.Lib.hid hbw
      have H0 := Go.Lib.hid hst.f0
      have H5 := Go.Lib.hid hst.f5
      have hnin : ¬ ((i : Int) < (nk : Int) ∧ (i : Int) < 10) := by omega
      have hn1 := Go.Lib.hid hst.n1
      have hn2 := Go.Lib.hid hst.n2
      clear hst hbw hsa hsb hga hgb hin H8 HB8
      by_cases hik : (i : Int) < (nk : Int)
      · have hi10 : ¬ (i : Int) < 10 := fun h => hnin ⟨hik, h⟩
        clear hnin
        go_upto_region 24 with (fail)
        go_wp2_with fail
        refine C7.out.mono ?_
        rintro e w9 ⟨d9, g9, rfl, hd9, hb9⟩
        have hbw9 := HBW.out.trans (hb9.mono HBW.out.size)
        have C8 := sopen_c (at_ := 1) hd9 (HT.out.below hbw9) (by decide) HGA.out
        rw [show ((1 : Nat) : Int) = 1 from rfl] at C8
        have C8 := Go.Lib.hid C8
        have HD9 := Go.Lib.hid hd9
        have HB9 := Go.Lib.hid hbw9
        clear C7 hd9 hb9 hbw9 HBW
        go_wp2_with fail
        refine C8.out.mono ?_
        rintro e w10 ⟨x, rfl, hx, hb10⟩
        have hbw10 := HB9.out.trans (hb10.mono HB9.out.size)
        have hd10 := HD9.out.below hb10
        have C9 := sopen_c (at_ := 3) hd10 (HT.out.below hbw10) (by decide) HGB.out
        rw [show ((3 : Nat) : Int) = 3 from rfl] at C9
        have C9 := Go.Lib.hid C9
        have HD10 := Go.Lib.hid hd10
        have HB10 := Go.Lib.hid hbw10
        have HX10 := Go.Lib.hid hx
        clear C8 hd10 hb10 hbw10 hx HB9 HD9
        go_wp2_with fail
        refine C9.out.mono ?_
        rintro e w11 ⟨y, rfl, hy, hb11⟩
        have hbw11 := HB10.out.trans (hb11.mono HB10.out.size)
        have hd11 := HD10.out.below hb11
        have Ca := dread_c hd11 0 (by decide)
        rw [show ((0 : Nat) : Int) = 0 from rfl, show (calmS F 0).now = F 0 from rfl, H0.out] at Ca
        have Ca := Go.Lib.hid Ca
        have HD11 := Go.Lib.hid hd11
        have HB11 := Go.Lib.hid hbw11
        have HX11 := Go.Lib.hid (HX10.out.below hb11)
        have HY11 := Go.Lib.hid hy
        clear C9 hd11 hb11 hbw11 hy HB10 HD10 HX10
        go_wp2_with fail
        refine Ca.out.mono ?_
        rintro e w12 ⟨vl, rfl, hl12, hb12⟩
        have hbw12 := HB11.out.trans (hb12.mono HB11.out.size)
        have hd12 := HD11.out.below hb12
        have Cb := dread_c hd12 5 (by decide)
        rw [show ((5 : Nat) : Int) = 5 from rfl, show (calmS F 5).now = F 5 from rfl, H5.out] at Cb
        have Cb := Go.Lib.hid Cb
        obtain ⟨gl, cl, rfl, -, -, hcl', -, -⟩ := hl12.form (by rw [List.length_append]; decide)
        rw [len_l] at hl12 hcl' ⊢
        have hcl : (4 : Int) ≤ (cl : Int) := by omega
        have HB12 := Go.Lib.hid hbw12
        have HX12 := Go.Lib.hid (HX11.out.below hb12)
        have HY12 := Go.Lib.hid (HY11.out.below hb12)
        have HL12 := Go.Lib.hid hl12
        clear Ca hd12 hb12 hbw12 hl12 HB11 HD11 HX11 HY11
        go_wp2_with fail
        refine Cb.out.mono ?_
        rintro e w13 ⟨vr, rfl, hr13, hb13⟩
        have hbw13 := HB12.out.trans (hb13.mono HB12.out.size)
        obtain ⟨gr, cr, rfl, -, -, hcr', -, -⟩ := hr13.form (by rw [List.length_append]; decide)
        rw [len_r] at hr13 hcr' ⊢
        have hcr : (5 : Int) ≤ (cr : Int) := by omega
        have HB13 := Go.Lib.hid hbw13
        have HX := Go.Lib.hid (HX12.out.below hb13)
        have HY := Go.Lib.hid (HY12.out.below hb13)
        have HL9 := Go.Lib.hid (rb_head (HL12.out.below hb13).rb 4 (by rw [len_l]; decide) _ take_l)
        have HR9 := Go.Lib.hid (rb_head hr13.rb 5 (by rw [len_r]; decide) _ take_r)
        have HA9 := Go.Lib.hid (HA.out.below hbw13)
        have HB9 := Go.Lib.hid (HB.out.below hbw13)
        obtain ⟨tA, etA⟩ : ∃ t, t = str A := ⟨_, rfl⟩
        obtain ⟨tB, etB⟩ : ∃ t, t = str B := ⟨_, rfl⟩
        obtain ⟨tL, etL⟩ : ∃ t, t = str [108, 101, 102, 116] := ⟨_, rfl⟩
        obtain ⟨tR, etR⟩ : ∃ t, t = str [114, 105, 103, 104, 116] := ⟨_, rfl⟩
        have HtA := Go.Lib.hid etA.symm
        have HtB := Go.Lib.hid etB.symm
        have HtL := Go.Lib.hid etL.symm
        have HtR := Go.Lib.hid etR.symm
        have hL2 : tL.toList = [108, 101, 102, 116] := by rw [etL]; decide +kernel
        have hR2 : tR.toList = [114, 105, 103, 104, 116] := by rw [etR]; decide +kernel
        have HtL2 := Go.Lib.hid hL2
        have HtR2 := Go.Lib.hid hR2
        clear Cb hb13 hbw13 hr13 HB12 HX12 HY12 HL12 etA etB etL etR hL2 hR2
        go_upto_region 31 with (fail)
        refine wp_region_each (by kernel_rfl) (V31 x y gl gr cl cr m1 m2 A B tA tB tL tR a0 a1 len0 len1 cap0 cap1) (V31_below x y gl gr cl cr m1 m2 A B tA tB tL tR a0 a1 len0 len1 cap0 cap1) (by decide +kernel) (by decide +kernel) (by rfl) [115, 116, 117, 118, 119, 120, 121, 122, 123, 124, 125, 126, 127, 128, 129, 130, 131, 132, 133, 134, 135, 136, 137, 138, 139, 140, 141, 142, 143, 144, 145, 146, 147, 148, 149, 150, 151, 152, 6] (by rfl) ?_ ?_
        · intro i o ho a w6 hb6 hlen hg
          match i, ho with
          | 0, ho =>
            obtain rfl := Option.some.inj ho
            have h17 := given_old hg 17 (by decide +kernel)
            clear hg
            exact st_yield ho (wanted_none rfl) (.pointer (some ⟨x, 0, none⟩)) w6 (by simp [execOp, Act.eval, h17, go_sem]) ⟨_, rfl, Below.refl _ _, by rintro t' ⟨⟩; rfl⟩
          | 1, ho =>
            obtain rfl := Option.some.inj ho
            obtain ⟨_, h115, rfl⟩ := given_fed hg 115 (by decide +kernel)
            clear hg
            exact st_enter (w1 := w6) ho (wanted_none rfl) 14 #[.pointer (some ⟨x, 0, none⟩)] (by simp [execOp, Act.eval, h115, resolve, go_sem]) ((stext_q (HX.out.below hb6) A rfl).mono (by rintro e w7 ⟨u, rfl, hu, hb7⟩; exact ⟨_, rfl, _, rfl, hb7, by rintro t' ⟨⟩; exact hu⟩))
          | 2, ho =>
            obtain rfl := Option.some.inj ho
            obtain ⟨v116, h116, p116⟩ := given_fed hg 116 (by decide +kernel)
            clear hg
            have cv := run_string_RB w6 30 5 9 Tryd.underlying30 Tryd.underlying5 Tryd.underlying9 v116 A p116
            rw [HtA.out] at cv
            exact st_yield ho (wanted_none rfl) (.string tA) w6 (by simp [execOp, Act.eval, h116, go_sem, cv]) ⟨_, rfl, Below.refl _ _, by rintro t' ⟨⟩; rfl⟩
          | 3, ho =>
            obtain rfl := Option.some.inj ho
            have h0 := given_old hg 0 (by decide +kernel)
            clear hg
            exact st_yield ho (wanted_none rfl) (.slice a0 len0 cap0) w6 (by simp [execOp, Act.eval, h0, go_sem]) ⟨_, rfl, Below.refl _ _, by rintro t' ⟨⟩; rfl⟩
          | 4, ho =>
            obtain rfl := Option.some.inj ho
            obtain ⟨_, h118, rfl⟩ := given_fed hg 118 (by decide +kernel)
            clear hg
            have cv := run_string_RB w6 30 5 9 Tryd.underlying30 Tryd.underlying5 Tryd.underlying9 (.slice a0 len0 cap0) A (HA9.out.below hb6)
            rw [HtA.out] at cv
            exact st_yield ho (wanted_none rfl) (.string tA) w6 (by simp [execOp, Act.eval, h118, go_sem, cv]) ⟨_, rfl, Below.refl _ _, by rintro t' ⟨⟩; rfl⟩
          | 5, ho =>
            obtain rfl := Option.some.inj ho
            obtain ⟨_, h117, rfl⟩ := given_fed hg 117 (by decide +kernel)
            obtain ⟨_, h119, rfl⟩ := given_fed hg 119 (by decide +kernel)
            clear hg
            exact st_yield ho (wanted_none rfl) (.bool true) w6 (by simp [execOp, Act.eval, h117, h119, go_sem]) ⟨_, rfl, Below.refl _ _, by rintro t' ⟨⟩; rfl⟩
          | 6, ho =>
            obtain rfl := Option.some.inj ho
            obtain ⟨_, h120, rfl⟩ := given_fed hg 120 (by decide +kernel)
            clear hg
            exact st_yield ho (wanted_none rfl) (.bool true) w6 (by simp [execOp, Act.eval, h120, go_sem]) ⟨_, rfl, Below.refl _ _, by rintro t' ⟨⟩; rfl⟩
          | 7, ho =>
            obtain rfl := Option.some.inj ho
            have h17 := given_old hg 17 (by decide +kernel)
            obtain ⟨_, h121, rfl⟩ := given_fed hg 121 (by decide +kernel)
            clear hg
            exact st_yield ho (wanted_some rfl rfl h121 rfl) (.pointer (some ⟨x, 0, none⟩)) w6 (by simp [execOp, Act.eval, h17, go_sem]) ⟨_, rfl, Below.refl _ _, by rintro t' ⟨⟩; rfl⟩
          | 8, ho =>
            obtain rfl := Option.some.inj ho
            obtain ⟨_, h122, rfl⟩ := given_fed hg 122 (by decide +kernel)
            obtain ⟨_, h121, rfl⟩ := given_fed hg 121 (by decide +kernel)
            clear hg
            exact st_enter (w1 := w6) ho (wanted_some rfl rfl h121 rfl) 15 #[.pointer (some ⟨x, 0, none⟩)] (by simp [execOp, Act.eval, h122, resolve, go_sem]) ((sturn_q (HX.out.below hb6) (m1 : Int) rfl).mono (by rintro e w7 ⟨rfl, hb7⟩; exact ⟨_, rfl, _, rfl, hb7, by rintro t' ⟨⟩; rfl⟩))
          | 9, ho =>
            obtain rfl := Option.some.inj ho
            have h13 := given_old hg 13 (by decide +kernel)
            obtain ⟨_, h121, rfl⟩ := given_fed hg 121 (by decide +kernel)
            clear hg
            exact st_yield ho (wanted_some rfl rfl h121 rfl) (.int .i64 (m1 : Int)) w6 (by simp [execOp, Act.eval, h13, go_sem]) ⟨_, rfl, Below.refl _ _, by rintro t' ⟨⟩; rfl⟩
          | 10, ho =>
            obtain rfl := Option.some.inj ho
            obtain ⟨_, h123, rfl⟩ := given_fed hg 123 (by decide +kernel)
            obtain ⟨_, h124, rfl⟩ := given_fed hg 124 (by decide +kernel)
            obtain ⟨_, h121, rfl⟩ := given_fed hg 121 (by decide +kernel)
            clear hg
            exact st_yield ho (wanted_some rfl rfl h121 rfl) (.bool true) w6 (by simp [execOp, Act.eval, h123, h124, go_sem]) ⟨_, rfl, Below.refl _ _, by rintro t' ⟨⟩; rfl⟩
          | 11, ho =>
            obtain rfl := Option.some.inj ho
            obtain ⟨_, h121, rfl⟩ := given_fed hg 121 (by decide +kernel)
            obtain ⟨_, h125, rfl⟩ := given_fed hg 125 (by decide +kernel)
            clear hg
            exact st_yield ho (wanted_none rfl) (.bool true) w6 (by simp [execOp, Act.eval, h121, h125, go_sem]) ⟨_, rfl, Below.refl _ _, by rintro t' ⟨⟩; rfl⟩
          | 12, ho =>
            obtain rfl := Option.some.inj ho
            obtain ⟨_, h126, rfl⟩ := given_fed hg 126 (by decide +kernel)
            clear hg
            exact st_yield ho (wanted_none rfl) (.bool true) w6 (by simp [execOp, Act.eval, h126, go_sem]) ⟨_, rfl, Below.refl _ _, by rintro t' ⟨⟩; rfl⟩
          | 13, ho =>
            obtain rfl := Option.some.inj ho
            have h18 := given_old hg 18 (by decide +kernel)
            obtain ⟨_, h127, rfl⟩ := given_fed hg 127 (by decide +kernel)
            clear hg
            exact st_yield ho (wanted_some rfl rfl h127 rfl) (.pointer (some ⟨y, 0, none⟩)) w6 (by simp [execOp, Act.eval, h18, go_sem]) ⟨_, rfl, Below.refl _ _, by rintro t' ⟨⟩; rfl⟩
          | 14, ho =>
            obtain rfl := Option.some.inj ho
            obtain ⟨_, h128, rfl⟩ := given_fed hg 128 (by decide +kernel)
            obtain ⟨_, h127, rfl⟩ := given_fed hg 127 (by decide +kernel)
            clear hg
            exact st_enter (w1 := w6) ho (wanted_some rfl rfl h127 rfl) 14 #[.pointer (some ⟨y, 0, none⟩)] (by simp [execOp, Act.eval, h128, resolve, go_sem]) ((stext_q (HY.out.below hb6) B rfl).mono (by rintro e w7 ⟨u, rfl, hu, hb7⟩; exact ⟨_, rfl, _, rfl, hb7, by rintro t' ⟨⟩; exact hu⟩))
          | 15, ho =>
            obtain rfl := Option.some.inj ho
            obtain ⟨v129, h129, p129⟩ := given_fed hg 129 (by decide +kernel)
            obtain ⟨_, h127, rfl⟩ := given_fed hg 127 (by decide +kernel)
            clear hg
            have cv := run_string_RB w6 30 5 9 Tryd.underlying30 Tryd.underlying5 Tryd.underlying9 v129 B p129
            rw [HtB.out] at cv
            exact st_yield ho (wanted_some rfl rfl h127 rfl) (.string tB) w6 (by simp [execOp, Act.eval, h129, go_sem, cv]) ⟨_, rfl, Below.refl _ _, by rintro t' ⟨⟩; rfl⟩
          | 16, ho =>
            obtain rfl := Option.some.inj ho
            have h1 := given_old hg 1 (by decide +kernel)
            obtain ⟨_, h127, rfl⟩ := given_fed hg 127 (by decide +kernel)
            clear hg
            exact st_yield ho (wanted_some rfl rfl h127 rfl) (.slice a1 len1 cap1) w6 (by simp [execOp, Act.eval, h1, go_sem]) ⟨_, rfl, Below.refl _ _, by rintro t' ⟨⟩; rfl⟩
          | 17, ho =>
            obtain rfl := Option.some.inj ho
            obtain ⟨_, h131, rfl⟩ := given_fed hg 131 (by decide +kernel)
            obtain ⟨_, h127, rfl⟩ := given_fed hg 127 (by decide +kernel)
            clear hg
            have cv := run_string_RB w6 30 5 9 Tryd.underlying30 Tryd.underlying5 Tryd.underlying9 (.slice a1 len1 cap1) B (HB9.out.below hb6)
            rw [HtB.out] at cv
            exact st_yield ho (wanted_some rfl rfl h127 rfl) (.string tB) w6 (by simp [execOp, Act.eval, h131, go_sem, cv]) ⟨_, rfl, Below.refl _ _, by rintro t' ⟨⟩; rfl⟩
          | 18, ho =>
            obtain rfl := Option.some.inj ho
            obtain ⟨_, h130, rfl⟩ := given_fed hg 130 (by decide +kernel)
            obtain ⟨_, h132, rfl⟩ := given_fed hg 132 (by decide +kernel)
            obtain ⟨_, h127, rfl⟩ := given_fed hg 127 (by decide +kernel)
            clear hg
            exact st_yield ho (wanted_some rfl rfl h127 rfl) (.bool true) w6 (by simp [execOp, Act.eval, h130, h132, go_sem]) ⟨_, rfl, Below.refl _ _, by rintro t' ⟨⟩; rfl⟩
          | 19, ho =>
            obtain rfl := Option.some.inj ho
            obtain ⟨_, h127, rfl⟩ := given_fed hg 127 (by decide +kernel)
            obtain ⟨_, h133, rfl⟩ := given_fed hg 133 (by decide +kernel)
            clear hg
            exact st_yield ho (wanted_none rfl) (.bool true) w6 (by simp [execOp, Act.eval, h127, h133, go_sem]) ⟨_, rfl, Below.refl _ _, by rintro t' ⟨⟩; rfl⟩
          | 20, ho =>
            obtain rfl := Option.some.inj ho
            obtain ⟨_, h134, rfl⟩ := given_fed hg 134 (by decide +kernel)
            clear hg
            exact st_yield ho (wanted_none rfl) (.bool true) w6 (by simp [execOp, Act.eval, h134, go_sem]) ⟨_, rfl, Below.refl _ _, by rintro t' ⟨⟩; rfl⟩
          | 21, ho =>
            obtain rfl := Option.some.inj ho
            have h18 := given_old hg 18 (by decide +kernel)
            obtain ⟨_, h135, rfl⟩ := given_fed hg 135 (by decide +kernel)
            clear hg
            exact st_yield ho (wanted_some rfl rfl h135 rfl) (.pointer (some ⟨y, 0, none⟩)) w6 (by simp [execOp, Act.eval, h18, go_sem]) ⟨_, rfl, Below.refl _ _, by rintro t' ⟨⟩; rfl⟩
          | 22, ho =>
            obtain rfl := Option.some.inj ho
            obtain ⟨_, h136, rfl⟩ := given_fed hg 136 (by decide +kernel)
            obtain ⟨_, h135, rfl⟩ := given_fed hg 135 (by decide +kernel)
            clear hg
            exact st_enter (w1 := w6) ho (wanted_some rfl rfl h135 rfl) 15 #[.pointer (some ⟨y, 0, none⟩)] (by simp [execOp, Act.eval, h136, resolve, go_sem]) ((sturn_q (HY.out.below hb6) (m2 : Int) rfl).mono (by rintro e w7 ⟨rfl, hb7⟩; exact ⟨_, rfl, _, rfl, hb7, by rintro t' ⟨⟩; rfl⟩))
          | 23, ho =>
            obtain rfl := Option.some.inj ho
            have h14 := given_old hg 14 (by decide +kernel)
            obtain ⟨_, h135, rfl⟩ := given_fed hg 135 (by decide +kernel)
            clear hg
            exact st_yield ho (wanted_some rfl rfl h135 rfl) (.int .i64 (m2 : Int)) w6 (by simp [execOp, Act.eval, h14, go_sem]) ⟨_, rfl, Below.refl _ _, by rintro t' ⟨⟩; rfl⟩
          | 24, ho =>
            obtain rfl := Option.some.inj ho
            obtain ⟨_, h137, rfl⟩ := given_fed hg 137 (by decide +kernel)
            obtain ⟨_, h138, rfl⟩ := given_fed hg 138 (by decide +kernel)
            obtain ⟨_, h135, rfl⟩ := given_fed hg 135 (by decide +kernel)
            clear hg
            exact st_yield ho (wanted_some rfl rfl h135 rfl) (.bool true) w6 (by simp [execOp, Act.eval, h137, h138, go_sem]) ⟨_, rfl, Below.refl _ _, by rintro t' ⟨⟩; rfl⟩
          | 25, ho =>
            obtain rfl := Option.some.inj ho
            obtain ⟨_, h135, rfl⟩ := given_fed hg 135 (by decide +kernel)
            obtain ⟨_, h139, rfl⟩ := given_fed hg 139 (by decide +kernel)
            clear hg
            exact st_yield ho (wanted_none rfl) (.bool true) w6 (by simp [execOp, Act.eval, h135, h139, go_sem]) ⟨_, rfl, Below.refl _ _, by rintro t' ⟨⟩; rfl⟩
          | 26, ho =>
            obtain rfl := Option.some.inj ho
            obtain ⟨_, h140, rfl⟩ := given_fed hg 140 (by decide +kernel)
            clear hg
            exact st_yield ho (wanted_none rfl) (.bool true) w6 (by simp [execOp, Act.eval, h140, go_sem]) ⟨_, rfl, Below.refl _ _, by rintro t' ⟨⟩; rfl⟩
          | 27, ho =>
            obtain rfl := Option.some.inj ho
            have h19 := given_old hg 19 (by decide +kernel)
            obtain ⟨_, h141, rfl⟩ := given_fed hg 141 (by decide +kernel)
            clear hg
            exact st_yield ho (wanted_some rfl rfl h141 rfl) (.slice (some ⟨gl, 0, none⟩) 64 cl) w6 (by simp [execOp, Act.eval, h19, go_sem]) ⟨_, rfl, Below.refl _ _, by rintro t' ⟨⟩; rfl⟩
          | 28, ho =>
            obtain rfl := Option.some.inj ho
            obtain ⟨_, h142, rfl⟩ := given_fed hg 142 (by decide +kernel)
            obtain ⟨_, h141, rfl⟩ := given_fed hg 141 (by decide +kernel)
            clear hg
            exact st_yield ho (wanted_some rfl rfl h141 rfl) (.slice (some ⟨gl, 0, none⟩) 4 cl) w6 (by simp [execOp, Act.eval, h142, go_sem, hcl]) ⟨_, rfl, Below.refl _ _, by rintro t' ⟨⟩; rfl⟩
          | 29, ho =>
            obtain rfl := Option.some.inj ho
            obtain ⟨_, h143, rfl⟩ := given_fed hg 143 (by decide +kernel)
            obtain ⟨_, h141, rfl⟩ := given_fed hg 141 (by decide +kernel)
            clear hg
            have cv := run_string_RB w6 30 5 9 Tryd.underlying30 Tryd.underlying5 Tryd.underlying9 (.slice (some ⟨gl, 0, none⟩) 4 cl) [108, 101, 102, 116] (HL9.out.below hb6)
            rw [HtL.out] at cv
            exact st_yield ho (wanted_some rfl rfl h141 rfl) (.string tL) w6 (by simp [execOp, Act.eval, h143, go_sem, cv]) ⟨_, rfl, Below.refl _ _, by rintro t' ⟨⟩; rfl⟩
          | 30, ho =>
            obtain rfl := Option.some.inj ho
            obtain ⟨_, h144, rfl⟩ := given_fed hg 144 (by decide +kernel)
            obtain ⟨_, h141, rfl⟩ := given_fed hg 141 (by decide +kernel)
            clear hg
            exact st_yield ho (wanted_some rfl rfl h141 rfl) (.bool true) w6 (by simp [execOp, Act.eval, h144, go_sem, HtL2.out]) ⟨_, rfl, Below.refl _ _, by rintro t' ⟨⟩; rfl⟩
          | 31, ho =>
            obtain rfl := Option.some.inj ho
            obtain ⟨_, h141, rfl⟩ := given_fed hg 141 (by decide +kernel)
            obtain ⟨_, h145, rfl⟩ := given_fed hg 145 (by decide +kernel)
            clear hg
            exact st_yield ho (wanted_none rfl) (.bool true) w6 (by simp [execOp, Act.eval, h141, h145, go_sem]) ⟨_, rfl, Below.refl _ _, by rintro t' ⟨⟩; rfl⟩
          | 32, ho =>
            obtain rfl := Option.some.inj ho
            obtain ⟨_, h146, rfl⟩ := given_fed hg 146 (by decide +kernel)
            clear hg
            exact st_yield ho (wanted_none rfl) (.bool true) w6 (by simp [execOp, Act.eval, h146, go_sem]) ⟨_, rfl, Below.refl _ _, by rintro t' ⟨⟩; rfl⟩
          | 33, ho =>
            obtain rfl := Option.some.inj ho
            have h21 := given_old hg 21 (by decide +kernel)
            obtain ⟨_, h147, rfl⟩ := given_fed hg 147 (by decide +kernel)
            clear hg
            exact st_yield ho (wanted_some rfl rfl h147 rfl) (.slice (some ⟨gr, 0, none⟩) 64 cr) w6 (by simp [execOp, Act.eval, h21, go_sem]) ⟨_, rfl, Below.refl _ _, by rintro t' ⟨⟩; rfl⟩
          | 34, ho =>
            obtain rfl := Option.some.inj ho
            obtain ⟨_, h148, rfl⟩ := given_fed hg 148 (by decide +kernel)
            obtain ⟨_, h147, rfl⟩ := given_fed hg 147 (by decide +kernel)
            clear hg
            exact st_yield ho (wanted_some rfl rfl h147 rfl) (.slice (some ⟨gr, 0, none⟩) 5 cr) w6 (by simp [execOp, Act.eval, h148, go_sem, hcr]) ⟨_, rfl, Below.refl _ _, by rintro t' ⟨⟩; rfl⟩
          | 35, ho =>
            obtain rfl := Option.some.inj ho
            obtain ⟨_, h149, rfl⟩ := given_fed hg 149 (by decide +kernel)
            obtain ⟨_, h147, rfl⟩ := given_fed hg 147 (by decide +kernel)
            clear hg
            have cv := run_string_RB w6 30 5 9 Tryd.underlying30 Tryd.underlying5 Tryd.underlying9 (.slice (some ⟨gr, 0, none⟩) 5 cr) [114, 105, 103, 104, 116] (HR9.out.below hb6)
            rw [HtR.out] at cv
            exact st_yield ho (wanted_some rfl rfl h147 rfl) (.string tR) w6 (by simp [execOp, Act.eval, h149, go_sem, cv]) ⟨_, rfl, Below.refl _ _, by rintro t' ⟨⟩; rfl⟩
          | 36, ho =>
            obtain rfl := Option.some.inj ho
            obtain ⟨_, h150, rfl⟩ := given_fed hg 150 (by decide +kernel)
            obtain ⟨_, h147, rfl⟩ := given_fed hg 147 (by decide +kernel)
            clear hg
            exact st_yield ho (wanted_some rfl rfl h147 rfl) (.bool true) w6 (by simp [execOp, Act.eval, h150, go_sem, HtR2.out]) ⟨_, rfl, Below.refl _ _, by rintro t' ⟨⟩; rfl⟩
          | 37, ho =>
            obtain rfl := Option.some.inj ho
            obtain ⟨_, h147, rfl⟩ := given_fed hg 147 (by decide +kernel)
            obtain ⟨_, h151, rfl⟩ := given_fed hg 151 (by decide +kernel)
            clear hg
            exact st_yield ho (wanted_none rfl) (.bool true) w6 (by simp [execOp, Act.eval, h147, h151, go_sem]) ⟨_, rfl, Below.refl _ _, by rintro t' ⟨⟩; rfl⟩
          | 38, ho =>
            obtain rfl := Option.some.inj ho
            obtain ⟨_, h152, rfl⟩ := given_fed hg 152 (by decide +kernel)
            clear hg
            exact st_yield ho (wanted_none rfl) (.bool true) w6 (by simp [execOp, Act.eval, h152, go_sem]) ⟨_, rfl, Below.refl _ _, by rintro t' ⟨⟩; rfl⟩
          | n + 39, ho => simp at ho
        · intro f15 w15 hb15 hv
          have h6 := hv 6 (by decide)
          simp only [V31] at h6
          have HCf := Go.Lib.hid (HB13.out.trans (hb15.mono HB13.out.size))
          clear hv hb15
          unfold putAll
          simp only [List.foldl]
          simp only [h6]
          go_simp
          go_wp2_with fail
          go_ret
          exact ⟨rfl, HCf.out⟩
      · clear hnin
        go_upto_region 24 with (fail)
        go_wp2_with fail
        refine C7.out.mono ?_
        rintro e w9 ⟨d9, g9, rfl, hd9, hb9⟩
        have hbw9 := HBW.out.trans (hb9.mono HBW.out.size)
        have C8 := sopen_c (at_ := 1) hd9 (HT.out.below hbw9) (by decide) HGA.out
        rw [show ((1 : Nat) : Int) = 1 from rfl] at C8
        have C8 := Go.Lib.hid C8
        have HD9 := Go.Lib.hid hd9
        have HB9 := Go.Lib.hid hbw9
        clear C7 hd9 hb9 hbw9 HBW
        go_wp2_with fail
        refine C8.out.mono ?_
        rintro e w10 ⟨x, rfl, hx, hb10⟩
        have hbw10 := HB9.out.trans (hb10.mono HB9.out.size)
        have hd10 := HD9.out.below hb10
        have C9 := sopen_c (at_ := 3) hd10 (HT.out.below hbw10) (by decide) HGB.out
        rw [show ((3 : Nat) : Int) = 3 from rfl] at C9
        have C9 := Go.Lib.hid C9
        have HD10 := Go.Lib.hid hd10
        have HB10 := Go.Lib.hid hbw10
        have HX10 := Go.Lib.hid hx
        clear C8 hd10 hb10 hbw10 hx HB9 HD9
        go_wp2_with fail
        refine C9.out.mono ?_
        rintro e w11 ⟨y, rfl, hy, hb11⟩
        have hbw11 := HB10.out.trans (hb11.mono HB10.out.size)
        have hd11 := HD10.out.below hb11
        have Ca := dread_c hd11 0 (by decide)
        rw [show ((0 : Nat) : Int) = 0 from rfl, show (calmS F 0).now = F 0 from rfl, H0.out] at Ca
        have Ca := Go.Lib.hid Ca
        have HD11 := Go.Lib.hid hd11
        have HB11 := Go.Lib.hid hbw11
        have HX11 := Go.Lib.hid (HX10.out.below hb11)
        have HY11 := Go.Lib.hid hy
        clear C9 hd11 hb11 hbw11 hy HB10 HD10 HX10
        go_wp2_with fail
        refine Ca.out.mono ?_
        rintro e w12 ⟨vl, rfl, hl12, hb12⟩
        have hbw12 := HB11.out.trans (hb12.mono HB11.out.size)
        have hd12 := HD11.out.below hb12
        have Cb := dread_c hd12 5 (by decide)
        rw [show ((5 : Nat) : Int) = 5 from rfl, show (calmS F 5).now = F 5 from rfl, H5.out] at Cb
        have Cb := Go.Lib.hid Cb
        obtain ⟨gl, cl, rfl, -, -, hcl', -, -⟩ := hl12.form (by rw [List.length_append]; decide)
        rw [len_l] at hl12 hcl' ⊢
        have hcl : (4 : Int) ≤ (cl : Int) := by omega
        have HB12 := Go.Lib.hid hbw12
        have HX12 := Go.Lib.hid (HX11.out.below hb12)
        have HY12 := Go.Lib.hid (HY11.out.below hb12)
        have HL12 := Go.Lib.hid hl12
        clear Ca hd12 hb12 hbw12 hl12 HB11 HD11 HX11 HY11
        go_wp2_with fail
        refine Cb.out.mono ?_
        rintro e w13 ⟨vr, rfl, hr13, hb13⟩
        have hbw13 := HB12.out.trans (hb13.mono HB12.out.size)
        obtain ⟨gr, cr, rfl, -, -, hcr', -, -⟩ := hr13.form (by rw [List.length_append]; decide)
        rw [len_r] at hr13 hcr' ⊢
        have hcr : (5 : Int) ≤ (cr : Int) := by omega
        have HB13 := Go.Lib.hid hbw13
        have HX := Go.Lib.hid (HX12.out.below hb13)
        have HY := Go.Lib.hid (HY12.out.below hb13)
        have HL9 := Go.Lib.hid (rb_head (HL12.out.below hb13).rb 4 (by rw [len_l]; decide) _ take_l)
        have HR9 := Go.Lib.hid (rb_head hr13.rb 5 (by rw [len_r]; decide) _ take_r)
        have HA9 := Go.Lib.hid (HA.out.below hbw13)
        have HB9 := Go.Lib.hid (HB.out.below hbw13)
        obtain ⟨tA, etA⟩ : ∃ t, t = str A := ⟨_, rfl⟩
        obtain ⟨tB, etB⟩ : ∃ t, t = str B := ⟨_, rfl⟩
        obtain ⟨tL, etL⟩ : ∃ t, t = str [108, 101, 102, 116] := ⟨_, rfl⟩
        obtain ⟨tR, etR⟩ : ∃ t, t = str [114, 105, 103, 104, 116] := ⟨_, rfl⟩
        have HtA := Go.Lib.hid etA.symm
        have HtB := Go.Lib.hid etB.symm
        have HtL := Go.Lib.hid etL.symm
        have HtR := Go.Lib.hid etR.symm
        have hL2 : tL.toList = [108, 101, 102, 116] := by rw [etL]; decide +kernel
        have hR2 : tR.toList = [114, 105, 103, 104, 116] := by rw [etR]; decide +kernel
        have HtL2 := Go.Lib.hid hL2
        have HtR2 := Go.Lib.hid hR2
        clear Cb hb13 hbw13 hr13 HB12 HX12 HY12 HL12 etA etB etL etR hL2 hR2
        go_upto_region 31 with (fail)
        refine wp_region_each (by kernel_rfl) (V31 x y gl gr cl cr m1 m2 A B tA tB tL tR a0 a1 len0 len1 cap0 cap1) (V31_below x y gl gr cl cr m1 m2 A B tA tB tL tR a0 a1 len0 len1 cap0 cap1) (by decide +kernel) (by decide +kernel) (by rfl) [115, 116, 117, 118, 119, 120, 121, 122, 123, 124, 125, 126, 127, 128, 129, 130, 131, 132, 133, 134, 135, 136, 137, 138, 139, 140, 141, 142, 143, 144, 145, 146, 147, 148, 149, 150, 151, 152, 6] (by rfl) ?_ ?_
        · intro i o ho a w6 hb6 hlen hg
          match i, ho with
          | 0, ho =>
            obtain rfl := Option.some.inj ho
            have h17 := given_old hg 17 (by decide +kernel)
            clear hg
            exact st_yield ho (wanted_none rfl) (.pointer (some ⟨x, 0, none⟩)) w6 (by simp [execOp, Act.eval, h17, go_sem]) ⟨_, rfl, Below.refl _ _, by rintro t' ⟨⟩; rfl⟩
          | 1, ho =>
            obtain rfl := Option.some.inj ho
            obtain ⟨_, h115, rfl⟩ := given_fed hg 115 (by decide +kernel)
            clear hg
            exact st_enter (w1 := w6) ho (wanted_none rfl) 14 #[.pointer (some ⟨x, 0, none⟩)] (by simp [execOp, Act.eval, h115, resolve, go_sem]) ((stext_q (HX.out.below hb6) A rfl).mono (by rintro e w7 ⟨u, rfl, hu, hb7⟩; exact ⟨_, rfl, _, rfl, hb7, by rintro t' ⟨⟩; exact hu⟩))
          | 2, ho =>
            obtain rfl := Option.some.inj ho
            obtain ⟨v116, h116, p116⟩ := given_fed hg 116 (by decide +kernel)
            clear hg
            have cv := run_string_RB w6 30 5 9 Tryd.underlying30 Tryd.underlying5 Tryd.underlying9 v116 A p116
            rw [HtA.out] at cv
            exact st_yield ho (wanted_none rfl) (.string tA) w6 (by simp [execOp, Act.eval, h116, go_sem, cv]) ⟨_, rfl, Below.refl _ _, by rintro t' ⟨⟩; rfl⟩
          | 3, ho =>
            obtain rfl := Option.some.inj ho
            have h0 := given_old hg 0 (by decide +kernel)
            clear hg
            exact st_yield ho (wanted_none rfl) (.slice a0 len0 cap0) w6 (by simp [execOp, Act.eval, h0, go_sem]) ⟨_, rfl, Below.refl _ _, by rintro t' ⟨⟩; rfl⟩
          | 4, ho =>
            obtain rfl := Option.some.inj ho
            obtain ⟨_, h118, rfl⟩ := given_fed hg 118 (by decide +kernel)
            clear hg
            have cv := run_string_RB w6 30 5 9 Tryd.underlying30 Tryd.underlying5 Tryd.underlying9 (.slice a0 len0 cap0) A (HA9.out.below hb6)
            rw [HtA.out] at cv
            exact st_yield ho (wanted_none rfl) (.string tA) w6 (by simp [execOp, Act.eval, h118, go_sem, cv]) ⟨_, rfl, Below.refl _ _, by rintro t' ⟨⟩; rfl⟩
          | 5, ho =>
            obtain rfl := Option.some.inj ho
            obtain ⟨_, h117, rfl⟩ := given_fed hg 117 (by decide +kernel)
            obtain ⟨_, h119, rfl⟩ := given_fed hg 119 (by decide +kernel)
            clear hg
            exact st_yield ho (wanted_none rfl) (.bool true) w6 (by simp [execOp, Act.eval, h117, h119, go_sem]) ⟨_, rfl, Below.refl _ _, by rintro t' ⟨⟩; rfl⟩
          | 6, ho =>
            obtain rfl := Option.some.inj ho
            obtain ⟨_, h120, rfl⟩ := given_fed hg 120 (by decide +kernel)
            clear hg
            exact st_yield ho (wanted_none rfl) (.bool true) w6 (by simp [execOp, Act.eval, h120, go_sem]) ⟨_, rfl, Below.refl _ _, by rintro t' ⟨⟩; rfl⟩
          | 7, ho =>
            obtain rfl := Option.some.inj ho
            have h17 := given_old hg 17 (by decide +kernel)
            obtain ⟨_, h121, rfl⟩ := given_fed hg 121 (by decide +kernel)
            clear hg
            exact st_yield ho (wanted_some rfl rfl h121 rfl) (.pointer (some ⟨x, 0, none⟩)) w6 (by simp [execOp, Act.eval, h17, go_sem]) ⟨_, rfl, Below.refl _ _, by rintro t' ⟨⟩; rfl⟩
          | 8, ho =>
            obtain rfl := Option.some.inj ho
            obtain ⟨_, h122, rfl⟩ := given_fed hg 122 (by decide +kernel)
            obtain ⟨_, h121, rfl⟩ := given_fed hg 121 (by decide +kernel)
            clear hg
            exact st_enter (w1 := w6) ho (wanted_some rfl rfl h121 rfl) 15 #[.pointer (some ⟨x, 0, none⟩)] (by simp [execOp, Act.eval, h122, resolve, go_sem]) ((sturn_q (HX.out.below hb6) (m1 : Int) rfl).mono (by rintro e w7 ⟨rfl, hb7⟩; exact ⟨_, rfl, _, rfl, hb7, by rintro t' ⟨⟩; rfl⟩))
          | 9, ho =>
            obtain rfl := Option.some.inj ho
            have h13 := given_old hg 13 (by decide +kernel)
            obtain ⟨_, h121, rfl⟩ := given_fed hg 121 (by decide +kernel)
            clear hg
            exact st_yield ho (wanted_some rfl rfl h121 rfl) (.int .i64 (m1 : Int)) w6 (by simp [execOp, Act.eval, h13, go_sem]) ⟨_, rfl, Below.refl _ _, by rintro t' ⟨⟩; rfl⟩
          | 10, ho =>
            obtain rfl := Option.some.inj ho
            obtain ⟨_, h123, rfl⟩ := given_fed hg 123 (by decide +kernel)
            obtain ⟨_, h124, rfl⟩ := given_fed hg 124 (by decide +kernel)
            obtain ⟨_, h121, rfl⟩ := given_fed hg 121 (by decide +kernel)
            clear hg
            exact st_yield ho (wanted_some rfl rfl h121 rfl) (.bool true) w6 (by simp [execOp, Act.eval, h123, h124, go_sem]) ⟨_, rfl, Below.refl _ _, by rintro t' ⟨⟩; rfl⟩
          | 11, ho =>
            obtain rfl := Option.some.inj ho
            obtain ⟨_, h121, rfl⟩ := given_fed hg 121 (by decide +kernel)
            obtain ⟨_, h125, rfl⟩ := given_fed hg 125 (by decide +kernel)
            clear hg
            exact st_yield ho (wanted_none rfl) (.bool true) w6 (by simp [execOp, Act.eval, h121, h125, go_sem]) ⟨_, rfl, Below.refl _ _, by rintro t' ⟨⟩; rfl⟩
          | 12, ho =>
            obtain rfl := Option.some.inj ho
            obtain ⟨_, h126, rfl⟩ := given_fed hg 126 (by decide +kernel)
            clear hg
            exact st_yield ho (wanted_none rfl) (.bool true) w6 (by simp [execOp, Act.eval, h126, go_sem]) ⟨_, rfl, Below.refl _ _, by rintro t' ⟨⟩; rfl⟩
          | 13, ho =>
            obtain rfl := Option.some.inj ho
            have h18 := given_old hg 18 (by decide +kernel)
            obtain ⟨_, h127, rfl⟩ := given_fed hg 127 (by decide +kernel)
            clear hg
            exact st_yield ho (wanted_some rfl rfl h127 rfl) (.pointer (some ⟨y, 0, none⟩)) w6 (by simp [execOp, Act.eval, h18, go_sem]) ⟨_, rfl, Below.refl _ _, by rintro t' ⟨⟩; rfl⟩
          | 14, ho =>
            obtain rfl := Option.some.inj ho
            obtain ⟨_, h128, rfl⟩ := given_fed hg 128 (by decide +kernel)
            obtain ⟨_, h127, rfl⟩ := given_fed hg 127 (by decide +kernel)
            clear hg
            exact st_enter (w1 := w6) ho (wanted_some rfl rfl h127 rfl) 14 #[.pointer (some ⟨y, 0, none⟩)] (by simp [execOp, Act.eval, h128, resolve, go_sem]) ((stext_q (HY.out.below hb6) B rfl).mono (by rintro e w7 ⟨u, rfl, hu, hb7⟩; exact ⟨_, rfl, _, rfl, hb7, by rintro t' ⟨⟩; exact hu⟩))
          | 15, ho =>
            obtain rfl := Option.some.inj ho
            obtain ⟨v129, h129, p129⟩ := given_fed hg 129 (by decide +kernel)
            obtain ⟨_, h127, rfl⟩ := given_fed hg 127 (by decide +kernel)
            clear hg
            have cv := run_string_RB w6 30 5 9 Tryd.underlying30 Tryd.underlying5 Tryd.underlying9 v129 B p129
            rw [HtB.out] at cv
            exact st_yield ho (wanted_some rfl rfl h127 rfl) (.string tB) w6 (by simp [execOp, Act.eval, h129, go_sem, cv]) ⟨_, rfl, Below.refl _ _, by rintro t' ⟨⟩; rfl⟩
          | 16, ho =>
            obtain rfl := Option.some.inj ho
            have h1 := given_old hg 1 (by decide +kernel)
            obtain ⟨_, h127, rfl⟩ := given_fed hg 127 (by decide +kernel)
            clear hg
            exact st_yield ho (wanted_some rfl rfl h127 rfl) (.slice a1 len1 cap1) w6 (by simp [execOp, Act.eval, h1, go_sem]) ⟨_, rfl, Below.refl _ _, by rintro t' ⟨⟩; rfl⟩
          | 17, ho =>
            obtain rfl := Option.some.inj ho
            obtain ⟨_, h131, rfl⟩ := given_fed hg 131 (by decide +kernel)
            obtain ⟨_, h127, rfl⟩ := given_fed hg 127 (by decide +kernel)
            clear hg
            have cv := run_string_RB w6 30 5 9 Tryd.underlying30 Tryd.underlying5 Tryd.underlying9 (.slice a1 len1 cap1) B (HB9.out.below hb6)
            rw [HtB.out] at cv
            exact st_yield ho (wanted_some rfl rfl h127 rfl) (.string tB) w6 (by simp [execOp, Act.eval, h131, go_sem, cv]) ⟨_, rfl, Below.refl _ _, by rintro t' ⟨⟩; rfl⟩
          | 18, ho =>
            obtain rfl := Option.some.inj ho
            obtain ⟨_, h130, rfl⟩ := given_fed hg 130 (by decide +kernel)
            obtain ⟨_, h132, rfl⟩ := given_fed hg 132 (by decide +kernel)
            obtain ⟨_, h127, rfl⟩ := given_fed hg 127 (by decide +kernel)
            clear hg
            exact st_yield ho (wanted_some rfl rfl h127 rfl) (.bool true) w6 (by simp [execOp, Act.eval, h130, h132, go_sem]) ⟨_, rfl, Below.refl _ _, by rintro t' ⟨⟩; rfl⟩
          | 19, ho =>
            obtain rfl := Option.some.inj ho
            obtain ⟨_, h127, rfl⟩ := given_fed hg 127 (by decide +kernel)
            obtain ⟨_, h133, rfl⟩ := given_fed hg 133 (by decide +kernel)
            clear hg
            exact st_yield ho (wanted_none rfl) (.bool true) w6 (by simp [execOp, Act.eval, h127, h133, go_sem]) ⟨_, rfl, Below.refl _ _, by rintro t' ⟨⟩; rfl⟩
          | 20, ho =>
            obtain rfl := Option.some.inj ho
            obtain ⟨_, h134, rfl⟩ := given_fed hg 134 (by decide +kernel)
            clear hg
            exact st_yield ho (wanted_none rfl) (.bool true) w6 (by simp [execOp, Act.eval, h134, go_sem]) ⟨_, rfl, Below.refl _ _, by rintro t' ⟨⟩; rfl⟩
          | 21, ho =>
            obtain rfl := Option.some.inj ho
            have h18 := given_old hg 18 (by decide +kernel)
            obtain ⟨_, h135, rfl⟩ := given_fed hg 135 (by decide +kernel)
            clear hg
            exact st_yield ho (wanted_some rfl rfl h135 rfl) (.pointer (some ⟨y, 0, none⟩)) w6 (by simp [execOp, Act.eval, h18, go_sem]) ⟨_, rfl, Below.refl _ _, by rintro t' ⟨⟩; rfl⟩
          | 22, ho =>
            obtain rfl := Option.some.inj ho
            obtain ⟨_, h136, rfl⟩ := given_fed hg 136 (by decide +kernel)
            obtain ⟨_, h135, rfl⟩ := given_fed hg 135 (by decide +kernel)
            clear hg
            exact st_enter (w1 := w6) ho (wanted_some rfl rfl h135 rfl) 15 #[.pointer (some ⟨y, 0, none⟩)] (by simp [execOp, Act.eval, h136, resolve, go_sem]) ((sturn_q (HY.out.below hb6) (m2 : Int) rfl).mono (by rintro e w7 ⟨rfl, hb7⟩; exact ⟨_, rfl, _, rfl, hb7, by rintro t' ⟨⟩; rfl⟩))
          | 23, ho =>
            obtain rfl := Option.some.inj ho
            have h14 := given_old hg 14 (by decide +kernel)
            obtain ⟨_, h135, rfl⟩ := given_fed hg 135 (by decide +kernel)
            clear hg
            exact st_yield ho (wanted_some rfl rfl h135 rfl) (.int .i64 (m2 : Int)) w6 (by simp [execOp, Act.eval, h14, go_sem]) ⟨_, rfl, Below.refl _ _, by rintro t' ⟨⟩; rfl⟩
          | 24, ho =>
            obtain rfl := Option.some.inj ho
            obtain ⟨_, h137, rfl⟩ := given_fed hg 137 (by decide +kernel)
            obtain ⟨_, h138, rfl⟩ := given_fed hg 138 (by decide +kernel)
            obtain ⟨_, h135, rfl⟩ := given_fed hg 135 (by decide +kernel)
            clear hg
            exact st_yield ho (wanted_some rfl rfl h135 rfl) (.bool true) w6 (by simp [execOp, Act.eval, h137, h138, go_sem]) ⟨_, rfl, Below.refl _ _, by rintro t' ⟨⟩; rfl⟩
          | 25, ho =>
            obtain rfl := Option.some.inj ho
            obtain ⟨_, h135, rfl⟩ := given_fed hg 135 (by decide +kernel)
            obtain ⟨_, h139, rfl⟩ := given_fed hg 139 (by decide +kernel)
            clear hg
            exact st_yield ho (wanted_none rfl) (.bool true) w6 (by simp [execOp, Act.eval, h135, h139, go_sem]) ⟨_, rfl, Below.refl _ _, by rintro t' ⟨⟩; rfl⟩
          | 26, ho =>
            obtain rfl := Option.some.inj ho
            obtain ⟨_, h140, rfl⟩ := given_fed hg 140 (by decide +kernel)
            clear hg
            exact st_yield ho (wanted_none rfl) (.bool true) w6 (by simp [execOp, Act.eval, h140, go_sem]) ⟨_, rfl, Below.refl _ _, by rintro t' ⟨⟩; rfl⟩
          | 27, ho =>
            obtain rfl := Option.some.inj ho
            have h19 := given_old hg 19 (by decide +kernel)
            obtain ⟨_, h141, rfl⟩ := given_fed hg 141 (by decide +kernel)
            clear hg
            exact st_yield ho (wanted_some rfl rfl h141 rfl) (.slice (some ⟨gl, 0, none⟩) 64 cl) w6 (by simp [execOp, Act.eval, h19, go_sem]) ⟨_, rfl, Below.refl _ _, by rintro t' ⟨⟩; rfl⟩
          | 28, ho =>
            obtain rfl := Option.some.inj ho
            obtain ⟨_, h142, rfl⟩ := given_fed hg 142 (by decide +kernel)
            obtain ⟨_, h141, rfl⟩ := given_fed hg 141 (by decide +kernel)
            clear hg
            exact st_yield ho (wanted_some rfl rfl h141 rfl) (.slice (some ⟨gl, 0, none⟩) 4 cl) w6 (by simp [execOp, Act.eval, h142, go_sem, hcl]) ⟨_, rfl, Below.refl _ _, by rintro t' ⟨⟩; rfl⟩
          | 29, ho =>
            obtain rfl := Option.some.inj ho
            obtain ⟨_, h143, rfl⟩ := given_fed hg 143 (by decide +kernel)
            obtain ⟨_, h141, rfl⟩ := given_fed hg 141 (by decide +kernel)
            clear hg
            have cv := run_string_RB w6 30 5 9 Tryd.underlying30 Tryd.underlying5 Tryd.underlying9 (.slice (some ⟨gl, 0, none⟩) 4 cl) [108, 101, 102, 116] (HL9.out.below hb6)
            rw [HtL.out] at cv
            exact st_yield ho (wanted_some rfl rfl h141 rfl) (.string tL) w6 (by simp [execOp, Act.eval, h143, go_sem, cv]) ⟨_, rfl, Below.refl _ _, by rintro t' ⟨⟩; rfl⟩
          | 30, ho =>
            obtain rfl := Option.some.inj ho
            obtain ⟨_, h144, rfl⟩ := given_fed hg 144 (by decide +kernel)
            obtain ⟨_, h141, rfl⟩ := given_fed hg 141 (by decide +kernel)
            clear hg
            exact st_yield ho (wanted_some rfl rfl h141 rfl) (.bool true) w6 (by simp [execOp, Act.eval, h144, go_sem, HtL2.out]) ⟨_, rfl, Below.refl _ _, by rintro t' ⟨⟩; rfl⟩
          | 31, ho =>
            obtain rfl := Option.some.inj ho
            obtain ⟨_, h141, rfl⟩ := given_fed hg 141 (by decide +kernel)
            obtain ⟨_, h145, rfl⟩ := given_fed hg 145 (by decide +kernel)
            clear hg
            exact st_yield ho (wanted_none rfl) (.bool true) w6 (by simp [execOp, Act.eval, h141, h145, go_sem]) ⟨_, rfl, Below.refl _ _, by rintro t' ⟨⟩; rfl⟩
          | 32, ho =>
            obtain rfl := Option.some.inj ho
            obtain ⟨_, h146, rfl⟩ := given_fed hg 146 (by decide +kernel)
            clear hg
            exact st_yield ho (wanted_none rfl) (.bool true) w6 (by simp [execOp, Act.eval, h146, go_sem]) ⟨_, rfl, Below.refl _ _, by rintro t' ⟨⟩; rfl⟩
          | 33, ho =>
            obtain rfl := Option.some.inj ho
            have h21 := given_old hg 21 (by decide +kernel)
            obtain ⟨_, h147, rfl⟩ := given_fed hg 147 (by decide +kernel)
            clear hg
            exact st_yield ho (wanted_some rfl rfl h147 rfl) (.slice (some ⟨gr, 0, none⟩) 64 cr) w6 (by simp [execOp, Act.eval, h21, go_sem]) ⟨_, rfl, Below.refl _ _, by rintro t' ⟨⟩; rfl⟩
          | 34, ho =>
            obtain rfl := Option.some.inj ho
            obtain ⟨_, h148, rfl⟩ := given_fed hg 148 (by decide +kernel)
            obtain ⟨_, h147, rfl⟩ := given_fed hg 147 (by decide +kernel)
            clear hg
            exact st_yield ho (wanted_some rfl rfl h147 rfl) (.slice (some ⟨gr, 0, none⟩) 5 cr) w6 (by simp [execOp, Act.eval, h148, go_sem, hcr]) ⟨_, rfl, Below.refl _ _, by rintro t' ⟨⟩; rfl⟩
          | 35, ho =>
            obtain rfl := Option.some.inj ho
            obtain ⟨_, h149, rfl⟩ := given_fed hg 149 (by decide +kernel)
            obtain ⟨_, h147, rfl⟩ := given_fed hg 147 (by decide +kernel)
            clear hg
            have cv := run_string_RB w6 30 5 9 Tryd.underlying30 Tryd.underlying5 Tryd.underlying9 (.slice (some ⟨gr, 0, none⟩) 5 cr) [114, 105, 103, 104, 116] (HR9.out.below hb6)
            rw [HtR.out] at cv
            exact st_yield ho (wanted_some rfl rfl h147 rfl) (.string tR) w6 (by simp [execOp, Act.eval, h149, go_sem, cv]) ⟨_, rfl, Below.refl _ _, by rintro t' ⟨⟩; rfl⟩
          | 36, ho =>
            obtain rfl := Option.some.inj ho
            obtain ⟨_, h150, rfl⟩ := given_fed hg 150 (by decide +kernel)
            obtain ⟨_, h147, rfl⟩ := given_fed hg 147 (by decide +kernel)
            clear hg
            exact st_yield ho (wanted_some rfl rfl h147 rfl) (.bool true) w6 (by simp [execOp, Act.eval, h150, go_sem, HtR2.out]) ⟨_, rfl, Below.refl _ _, by rintro t' ⟨⟩; rfl⟩
          | 37, ho =>
            obtain rfl := Option.some.inj ho
            obtain ⟨_, h147, rfl⟩ := given_fed hg 147 (by decide +kernel)
            obtain ⟨_, h151, rfl⟩ := given_fed hg 151 (by decide +kernel)
            clear hg
            exact st_yield ho (wanted_none rfl) (.bool true) w6 (by simp [execOp, Act.eval, h147, h151, go_sem]) ⟨_, rfl, Below.refl _ _, by rintro t' ⟨⟩; rfl⟩
          | 38, ho =>
            obtain rfl := Option.some.inj ho
            obtain ⟨_, h152, rfl⟩ := given_fed hg 152 (by decide +kernel)
            clear hg
            exact st_yield ho (wanted_none rfl) (.bool true) w6 (by simp [execOp, Act.eval, h152, go_sem]) ⟨_, rfl, Below.refl _ _, by rintro t' ⟨⟩; rfl⟩
          | n + 39, ho => simp at ho
        · intro f15 w15 hb15 hv
          have h6 := hv 6 (by decide)
          simp only [V31] at h6
          have HCf := Go.Lib.hid (HB13.out.trans (hb15.mono HB13.out.size))
          clear hv hb15
          unfold putAll
          simp only [List.foldl]
          simp only [h6]
          go_simp
          go_wp2_with fail
          go_ret
          exact ⟨rfl, HCf.out⟩

/-! ### THE ROW -/
noncomputable def laidWorld (os : Os) : World := World.doorLaid Tryd.prog 400 os
theorem laid_met (os : Os) : laidMetH Tryd.prog Rows.superTwoRow.laid ((laidWorld os).forCall (fun _ _ => 0) ⟨#[], #[.slice none 0 0, .slice none 0 0, .slice none 0 0], []⟩).memory :=
  laidMetH_of_parts3 (fuel := 8) (laidMet_of_run' 8 (by kernel_rfl) (by kernel_rfl)) (by kernel_rfl) (by kernel_rfl)
theorem reads (os : Os) {H : Type} (enc : TypeId × Value → H) : ∃ places, DataW.whole enc Tryd.prog ((laidWorld os).forCall (fun _ _ => 0) ⟨#[], #[.slice none 0 0, .slice none 0 0, .slice none 0 0], []⟩).memory Tryd.f6.params.toList Rows.superTwoSpec.vars false (Array.toList #[.slice none 0 0, .slice none 0 0, .slice none 0 0]) 8 = some ([.nil, .nil, .nil], [], places) :=
  ⟨[], by kernel_rfl⟩

set_option maxRecDepth 100000 in
theorem lifted (os : Os) (started : os.Started) (H : Type) (enc : TypeId × Value → H) (F : Stop.Interp) :
    ReturnsInHanded {} Tryd.checked os 6 .any ((OpenSpec.ofChange Rows.superTwoSpec).preRow enc Tryd.prog Tryd.f6 Rows.superTwoRow.domain false Rows.superTwoRow.laid) (((OpenSpec.ofChange Rows.superTwoSpec).at F).post enc Tryd.prog Tryd.f6 false true false false) := by
  obtain ⟨places, hx⟩ := reads os enc
  refine returnsInHanded_of_row (C := Tryd.checked) (s := OpenSpec.ofChange Rows.superTwoSpec) own started (by kernel_rfl) Tryd.func6
    (witness_row_at (enc := enc) (C := Tryd.checked) false (laidWorld os) #[.slice none 0 0, .slice none 0 0, .slice none 0 0] rfl (by kernel_rfl) (by kernel_rfl) (by kernel_rfl)
      (OpenSpec.preRow_of_cond 8 hx (by kernel_rfl) (fun k hk => by cases hk) (by kernel_rfl) (laid_met os))) ?_
  intro W base args ds gs before hval0 hW _ _ _ hL _ _
  have hval : ∀ (j : Nat) t v, Tryd.f6.params[j]? = some t → args[j]? = some v → Value.okWide Tryd.prog W .any base t v := hval0
  have hW' := hW
  obtain ⟨p, q, hA0, hV, rfl, hfz, hnd⟩ := hW
  have hA : DataW.TrodAll enc Tryd.prog W 0 (fun _ => true) true Tryd.f6.params.toList args.toList ds p := hA0
  rw [Tryd.params6] at hA hval
  obtain ⟨v0, vs0, d0, ds0, p0, q0, hargs, rfl, rfl, h0, r0⟩ := trodAll_cons hA
  obtain ⟨v1, vs1, d1, ds1, p1, q1, rfl, rfl, rfl, h1, r1⟩ := trodAll_cons r0
  obtain ⟨v2, vs2, d2, ds2, p2, q2, rfl, rfl, rfl, h2, r2⟩ := trodAll_cons r1
  obtain ⟨rfl, rfl, rfl⟩ := trodAll_nil r2
  obtain rfl : args = #[v0, v1, v2] := by cases args; simp_all
  obtain ⟨rfl, rfl⟩ := trodVars_none hV
  have kk0 := h0
  have lt0 : ∀ x ∈ p0, x.block < W.heap.size := by obtain ⟨m, hm⟩ := kk0; exact DataW.trod_lt m _ _ _ hm
  have kk1 := h1
  have lt1 : ∀ x ∈ p1, x.block < W.heap.size := by obtain ⟨m, hm⟩ := kk1; exact DataW.trod_lt m _ _ _ hm
  have kk2 := h2
  have lt2 : ∀ x ∈ p2, x.block < W.heap.size := by obtain ⟨m, hm⟩ := kk2; exact DataW.trod_lt m _ _ _ hm
  obtain ⟨a0, len0, cap0, rfl⟩ := okWide_slice Tryd.underlying30 (hval 0 30 v0 rfl rfl)
  obtain ⟨z0, w0⟩ : ∃ zs, IsRow .u8 W a0 len0 cap0 zs := by
    obtain ⟨fuel, hf⟩ := h0
    rcases open_ints Tryd.underlying30 Tryd.underlying5 (by kernel_rfl) hf with ⟨hcs, _⟩ | ⟨x, l, c, zs, hcs, _, hl, hm, hz, _, hcell, hwz⟩
    · simp [Value.cells] at hcs
      obtain ⟨rfl, rfl, rfl⟩ := hcs
      exact ⟨[], .inl ⟨rfl, rfl, rfl, rfl⟩⟩
    · simp [Value.cells] at hcs
      obtain ⟨rfl, rfl, rfl⟩ := hcs
      exact ⟨zs, .inr ⟨_, rfl, hl, hm, by simpa using hz, hcell, hwz⟩⟩
  obtain ⟨a1, len1, cap1, rfl⟩ := okWide_slice Tryd.underlying30 (hval 1 30 v1 rfl rfl)
  obtain ⟨z1, w1⟩ : ∃ zs, IsRow .u8 W a1 len1 cap1 zs := by
    obtain ⟨fuel, hf⟩ := h1
    rcases open_ints Tryd.underlying30 Tryd.underlying5 (by kernel_rfl) hf with ⟨hcs, _⟩ | ⟨x, l, c, zs, hcs, _, hl, hm, hz, _, hcell, hwz⟩
    · simp [Value.cells] at hcs
      obtain ⟨rfl, rfl, rfl⟩ := hcs
      exact ⟨[], .inl ⟨rfl, rfl, rfl, rfl⟩⟩
    · simp [Value.cells] at hcs
      obtain ⟨rfl, rfl, rfl⟩ := hcs
      exact ⟨zs, .inr ⟨_, rfl, hl, hm, by simpa using hz, hcell, hwz⟩⟩
  obtain ⟨a2, len2, cap2, rfl⟩ := okWide_slice Tryd.underlying40 (hval 2 40 v2 rfl rfl)
  obtain ⟨l2, w2⟩ := open_zb Tryd.underlying40 Tryd.underlying4 (by kernel_rfl) h2
  clear hA0 hval0
  refine (walk W hL a0 len0 cap0 z0 w0 a1 len1 cap1 z1 w1 a2 len2 cap2 l2 w2).mono fun e W' ⟨he, bel⟩ => ?_
  subst he
  exact ⟨_, rfl, _, _, _, [], _, [], hW', trodAll_mk1 (shut_bool Tryd.underlying4 _), (trodAll_cons_mk (Below.trod laidOut (by kernel_rfl) (of_decide_eq_true (by kernel_rfl)) kk0 bel lt0) (trodAll_cons_mk (Below.trod laidOut (by kernel_rfl) (of_decide_eq_true (by kernel_rfl)) kk1 bel lt1) (trodAll_cons_mk (Below.trod laidOut (by kernel_rfl) (of_decide_eq_true (by kernel_rfl)) kk2 bel lt2) trodAll_mk0))), rfl, bel.frame _, fun h => by cases h⟩

theorem said : Rows.SuperTwoSaid :=
  OpenClaim.holds_of_cond 6 Tryd.f6 rfl rfl rfl rfl rfl rfl rfl ⟨rfl, rfl, rfl, rfl, rfl⟩ rfl rfl rfl rfl rfl (by kernel_rfl) Tryd.func6 (by kernel_rfl)
    (of_decide_eq_true (by kernel_rfl)) (by unfold Func.isWrapper; first | (rw [if_pos (by decide +kernel)]; kernel_rfl) | (rw [if_neg (by decide +kernel)]; exact ⟨rfl, rfl⟩))
    (fun os started H enc _ F => by rw [OpenClaim.pre_eq_preRow]; exact lifted os started H enc F)

/-- No parameter wants a stand-in; the program's own looks are off: what the card asks. -/
theorem plain (f : FuncId) (fn : Func) (hf : Tryd.pinned.checked.prog.funcNamed "loess/loesslaw12.SuperTwo" = some f) (hfn : Tryd.pinned.checked.prog.funcs[f]? = some fn) :
    false = Tryd.pinned.checked.prog.looks [] ∧ ∀ (j : Nat) t, fn.params[j]? = some t → Tryd.pinned.checked.prog.wantsStandIn t = false := by
  obtain rfl : f = 6 := Option.some.inj ((show Tryd.prog.funcNamed "loess/loesslaw12.SuperTwo" = some 6 by kernel_rfl).symm.trans hf) |>.symm
  obtain rfl : fn = Tryd.f6 := (Option.some.inj (Tryd.func6.symm.trans hfn)).symm
  refine ⟨by kernel_rfl, fun j t ht => ?_⟩
  rw [Tryd.params6] at ht
  have hm : t ∈ [30, 30, 40] := by simpa using Array.mem_of_getElem? ht
  have hall : ([30, 30, 40].all fun u => !Tryd.prog.wantsStandIn u) = true := by kernel_rfl
  exact (show Tryd.prog.wantsStandIn t = false by simpa using List.all_eq_true.1 hall t hm)

/-- THE CARD. -/
theorem proved : Rows.SuperTwoCardSaid :=
  Claim7.holds_tied_plain_at .later [] _ _ _ _ said (fun _ h => by cases h) (by kernel_rfl) (fun _ h => by cases h) superTwo_row_tie rfl ⟨rfl, rfl⟩ (by kernel_rfl) rfl plain (by kernel_rfl)
end Go.Proofs.YtiejjiccncmeiaaDoor.superTwo
