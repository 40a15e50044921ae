/-
  The contracts of store's Open, Make, Names, Get, Free.
  Is there room? Mathematics. How many files are there behind some puts.
  The contract of dev's Calls.
  A store as laws meet it: what it holds by name.
  The law's begun.
  The contract of the laws' 'Short(b, n)': the first n bytes.
  The contract of the laws' 'Short(b, n)', the value said.
  A range over a text: its iterator, and what it hands over.
-/
import Derived.Test.YtnalokjnbccjnaaGreatDoorM12
import Derived.Test.YtnalokjnbccjnaaGreatDoorM07
import Derived.Test.YtnalokjnbccjnaaGreatDoorM01
import Derived.Test.YtnalokjnbccjnaaGreatDoorM03
import Derived.Test.YtnalokjnbccjnaaGreatDoorM02
import Derived.LoopTactic
import Derived.Lib.OthersKept
namespace Go.Proofs.YtnalokjnbccjnaaGreatDoor
open Go.RowKit

section
variable {w : World} {B s d p g n : Nat} {L : Life} {f : Found} {F : Nat → List UInt8} {es : List EntT} {ls : List Nat}
set_option maxRecDepth 100000 in
theorem oopen_c (hd : DV w B d g n (calmS F) L) (hT : Tab w) (hok : OkF n F f es ls) (hn : 64 ≤ n) (hB : B ≤ w.heap.size) :
    Calls Tryz.prog 20 #[.pointer (some ⟨d, 0, none⟩)] w fun e w' => ∃ s p, e = .returned (.tuple #[.pointer (some ⟨s, 0, none⟩), .int .i64 0]) ∧ LV w' B s d g p n F L f es ls ∧ Below w.heap.size w w' ∧ w.heap.size ≤ s ∧ w.heap.size ≤ p := by
  have C1 := Go.Lib.hid (dlen_c hd)
  have C2 := Go.Lib.hid (show Calls Tryz.prog 41 #[.pointer (some ⟨d, 0, none⟩), .int .i64 0] w fun e w' => ∃ p, e = .returned (.tuple #[.pointer (some ⟨p, 0, none⟩), .int .i64 0]) ∧ SU w' w.heap.size p d 0 f ∧ Below w.heap.size w w' from sopen_c (at_ := 0) hd hT (by omega) hok.good)
  have hnI : ¬ (n : Int) < 64 := by omega
  have HD := Go.Lib.hid hd
  have HT := Go.Lib.hid hT
  have HOK := Go.Lib.hid hok
  have HN := Go.Lib.hid hn
  have HB := Go.Lib.hid hB
  clear hd hT hok hn hB
  go_enter Tryz.func20, Tryz.ntmps20
  go_wp2_with fail
  refine C1.out.mono ?_
  rintro e w1 ⟨rfl, rfl⟩
  go_wp2_with fail
  refine C2.out.mono ?_
  rintro e w1 ⟨p, rfl, hsu, hb1⟩
  have hal := newB w1 (.cells #[.pointer (some ⟨d, 0, none⟩), .pointer (some ⟨p, 0, none⟩), .slice none 0 0, .slice none 0 0, .bool false] 73)
  have hb2 := below_to hb1 (Nat.le_refl _) hal
  have C3 := Go.Lib.hid (oload_c (HD.out.below hb2) (hsu.below hal) (HT.out.below hb2) HOK.out HN.out (heap_alloc_new w1 (.cells #[.pointer (some ⟨d, 0, none⟩), .pointer (some ⟨p, 0, none⟩), .slice none 0 0, .slice none 0 0, .bool false] 73)))
  have HB2 := Go.Lib.hid hb2
  have HSU := Go.Lib.hid (hsu.below hal)
  have HL1 := Go.Lib.hid hb1.size
  have HNW := Go.Lib.hid (heap_alloc_new w1 (.cells #[.pointer (some ⟨d, 0, none⟩), .pointer (some ⟨p, 0, none⟩), .slice none 0 0, .slice none 0 0, .bool false] 73))
  clear hsu hb1 hal hb2 C1 C2
  go_wp2_with fail
  refine C3.out.mono ?_
  rintro e w3 ⟨rfl, ho3, hst3⟩
  have HF := Go.Lib.hid (And.intro ho3 hst3)
  clear ho3 hst3 C3
  go_wp2_with fail
  go_ret2
  obtain ⟨ho3, hst3⟩ := HF.out
  have hd2 := HD.out.below HB2.out
  have aps := ap_dev hd2 HNW.out (by decide) (by decide)
  have app := ap_su HSU.out HNW.out (by decide)
  refine ⟨_, p, rfl, ⟨hst3.mono (Nat.le_trans HB.out HL1.out), hd2.offs ho3 (by simp; exact Ne.symm aps.1) (by simp; exact Ne.symm aps.2), ⟨_, (HSU.out.offs ho3 (by simp; exact Ne.symm app) ?_).mono HB.out⟩, HOK.out, HN.out⟩, HB2.out.trans (ho3.below (fun k hk => by simp only [List.mem_singleton] at hk; rw [hk]; exact HL1.out) HB2.out.size), HL1.out, HSU.out.low⟩
  intro k hk cs fr e
  obtain rfl : k = w1.heap.size := by simpa using hk
  rw [HNW.out] at e
  simp only [Option.some.injEq, Obj.cells.injEq] at e
  exact absurd e.2.1 (by decide)
set_option maxRecDepth 100000 in
theorem oopen_bad (hd : DV w B d g n (calmS F) L) (hT : Tab w) (hf : newestS F 0 = none0) (hn : 64 ≤ n) :
    Calls Tryz.prog 20 #[.pointer (some ⟨d, 0, none⟩)] w fun e w' => e = .returned (.tuple #[.pointer none, .int .i64 8]) ∧ Below w.heap.size w w' := by
  have C1 := Go.Lib.hid (dlen_c hd)
  have C2 := Go.Lib.hid (show Calls Tryz.prog 41 #[.pointer (some ⟨d, 0, none⟩), .int .i64 0] w fun e w' => e = .returned (.tuple #[.pointer none, .int .i64 8]) ∧ Below w.heap.size w w' from sopen_bad (at_ := 0) hd hT (by omega) hf)
  have hnI : ¬ (n : Int) < 64 := by omega
  clear hd hT hf hn
  go_enter Tryz.func20, Tryz.ntmps20
  go_wp2_with fail
  refine C1.out.mono ?_
  rintro e w1 ⟨rfl, rfl⟩
  go_wp2_with fail
  refine C2.out.mono ?_
  rintro e w1 ⟨rfl, hb1⟩
  have HB := Go.Lib.hid hb1
  clear hb1 C1 C2
  go_wp2_with fail
  go_ret2
  exact ⟨rfl, HB.out⟩
set_option maxRecDepth 100000 in
theorem omake_short {S : Nat → Sec} (hd : DV w B d g n S L) (hn : n < 64) : Calls Tryz.prog 12 #[.pointer (some ⟨d, 0, none⟩)] w fun e w' => e = .returned (.tuple #[.pointer none, .int .i64 3]) ∧ w = w' := by
  have C1 := Go.Lib.hid (dlen_c hd)
  have hnI : (n : Int) < 64 := by omega
  clear hd hn
  go_enter Tryz.func12, Tryz.ntmps12
  go_wp2_with fail
  refine C1.out.mono ?_
  rintro e w1 ⟨rfl, rfl⟩
  go_wp2_with fail
  go_ret2
  exact ⟨rfl, rfl⟩
theorem crc_nil : (crcSum []).toNat = 0 := by decide +kernel
theorem okf_made {F' : Nat → List UInt8} (hg : Good F' 0 ⟨0, headT [] [], 1⟩) : OkF n F' ⟨0, headT [] [], 1⟩ [] [] :=
  ⟨hg, ⟨[], rfl, rfl, rfl, by simp, .inl ⟨rfl, rfl⟩⟩, ⟨by simp, fun i hi => absurd hi (by simp)⟩, fun x hx => absurd hx (by simp), ⟨List.nodup_nil, fun x hx => absurd hx (by simp), fun x hx => absurd hx (by simp)⟩⟩
set_option maxRecDepth 100000 in
theorem omake_c {k : Nat} (hd : DV w B d g n (calmS F) (lifeN k)) (hk : k ≤ 1000) (hT : Tab w) (h0 : F 0 = zeros) (h1 : F 1 = zeros) (hn : 64 ≤ n) (hB : 0 < B) (hBw : B ≤ w.heap.size) :
    Calls Tryz.prog 12 #[.pointer (some ⟨d, 0, none⟩)] w fun e w' => ∃ s p F', e = .returned (.tuple #[.pointer (some ⟨s, 0, none⟩), .int .i64 0]) ∧ LV w' B s d g p n F' (lifeN (k + 4)) ⟨0, headT [] [], 1⟩ [] [] ∧ Offs [d, g] w w' ∧ Tab w' ∧ w.heap.size ≤ s ∧ w.heap.size ≤ p := by
  have C1 := Go.Lib.hid (dlen_c hd)
  have C2 := oencode_c 0 0 (.slice none 0 0) [] w (OwnV.nil 3 w 0).rv (by omega) (by omega) (by simp) (fun i hi => absurd hi (by simp))
  rw [show headB 0 0 [] = headT [] [] from by unfold headT; rw [crc_nil]; rfl] at C2
  have C2 := Go.Lib.hid (show Calls Tryz.prog 32 #[.agg #[.int .i64 0, .int .i64 0, .slice none 0 0]] w fun e w' => ∃ v, e = .returned v ∧ Own 5 w' w.heap.size v (headT [] []) ∧ Below w.heap.size w w' from C2)
  have hnI : ¬ (n : Int) < 64 := by omega
  have HD := Go.Lib.hid hd
  have HT := Go.Lib.hid hT
  have HN := Go.Lib.hid hn
  have HK := Go.Lib.hid hk
  have H01 := Go.Lib.hid (And.intro h0 h1)
  have HB := Go.Lib.hid (And.intro hB hBw)
  clear hd hT hn h0 h1 hB hBw hk
  go_enter Tryz.func12, Tryz.ntmps12
  go_wp2_with fail
  refine C1.out.mono ?_
  rintro e w1 ⟨rfl, rfl⟩
  go_wp2_with fail
  refine C2.out.mono ?_
  rintro e w1 ⟨v, rfl, ho1, hb1⟩
  have hd1 := HD.out.below hb1
  have C3 := Go.Lib.hid (show Calls Tryz.prog 31 #[.pointer (some ⟨d, 0, none⟩), .int .i64 0, v] w1 fun e w' => ∃ p, e = .returned (.tuple #[.pointer (some ⟨p, 0, none⟩), .int .i64 0]) ∧ ∃ F', DV w' B d g n (calmS F') (lifeN (k + 4)) ∧ SU w' w1.heap.size p d 0 ⟨0, headT [] [], 1⟩ ∧ Good F' 0 ⟨0, headT [] [], 1⟩ ∧ Offs [d, g] w1 w' ∧ Tab w' ∧ (∀ j, j ≠ 0 → j ≠ 0 + 1 → F' j = F j) from
    smade_c (at_ := 0) hd1 (F := F) (fun j _ => rfl) (Tidy.calm F) HK.out (HT.out.below hb1) (by have := HN.out; omega) H01.out.1 H01.out.2 (fun w' hk => (ho1.twoD hd1 (Two.ofO hk) (by decide) (by decide)).rb) (by have := headT_len (text := []) (ls := []) (n := 64) (by simp) (fun i hi => absurd hi (by simp)) (by omega) (by simp); omega) HB.out.1)
  obtain ⟨av, cv, rfl, -⟩ := ho1.rb
  have HB1 := Go.Lib.hid hb1
  clear ho1 hb1 hd1 C1 C2
  go_wp2_with fail
  refine C3.out.mono ?_
  rintro e w2 ⟨p, rfl, F', hd2, hs2, hg2, ho2, ht2, -⟩
  have HF := Go.Lib.hid (And.intro hd2 (And.intro hs2 (And.intro hg2 (And.intro ho2 ht2))))
  clear hd2 hs2 hg2 ho2 ht2 C3
  go_wp2_with fail
  go_ret2
  obtain ⟨hd2, hs2, hg2, ho2, ht2⟩ := HF.out
  have hal := newB w2 (.cells #[.pointer (some ⟨d, 0, none⟩), .pointer (some ⟨p, 0, none⟩), .slice none 0 0, .slice none 0 0, .bool false] 73)
  have hsz : w.heap.size ≤ w2.heap.size := Nat.le_trans HB1.out.size ho2.size
  have hnw := heap_alloc_new w2 (.cells #[.pointer (some ⟨d, 0, none⟩), .pointer (some ⟨p, 0, none⟩), .slice none 0 0, .slice none 0 0, .bool false] 73)
  refine ⟨_, p, F', rfl, ⟨⟨⟨_, _, hnw, OwnE.nil _ _, OwnV.nil _ _ _⟩, Nat.le_trans HB.out.2 hsz⟩, hd2.below hal, ⟨_, (hs2.below hal).mono (Nat.le_trans HB.out.2 HB1.out.size)⟩, okf_made hg2, HN.out⟩, ((Offs.of_below HB1.out).trans ho2).trans (Offs.of_below hal), ht2.below hal, hsz, Nat.le_trans HB1.out.size hs2.low⟩
end

theorem infoStr : (Tryz.prog.info? 9).map (fun i => (i.zero, i.size, i.bytes)) = some (some (.string ⟨#[]⟩), 1, 16) := by kernel_rfl
theorem one_str (nm : ByteArray) : ∀ x ∈ [Value.string nm], x.oneCell' = true := fun x hx => by rw [List.mem_singleton.1 hx]; rfl
/-- The names of files. -/
def nmV (es : List EntT) : List Value := es.map fun e => .string e.1
theorem nmV_len (es : List EntT) : (nmV es).length = es.length := by simp [nmV]
def VG7 (M s b7 a0 s0 el : Nat) (X : List UInt8) : Nat → World → Value → Prop
  | 25, _, v => v = .pointer (some ⟨s, 0, none⟩)
  | 26, _, v => v = .pointer (some ⟨b7, 2, none⟩)
  | 27, _, v => v = .agg #[.int .i64 (a0 : Int), .int .i64 (s0 : Int)]
  | 28, w, v => OwnV 3 w M v (zi .i64 (rowL a0 s0))
  | 29, _, v => v = .pointer (some ⟨b7, 1, none⟩)
  | 30, _, v => v = .int .i64 (el : Int)
  | 31, w, v => Own 5 w M v X
  | 4, w, v => Own 5 w M v X
  | 5, _, v => v = .int .i64 0
  | _, _, _ => True

theorem VG7_below (M s b7 a0 s0 el : Nat) (X : List UInt8) : ∀ (i : Nat) (w w' : World) (v : Value), VG7 M s b7 a0 s0 el X i w v → Below w.heap.size w w' → VG7 M s b7 a0 s0 el X i w' v := by
  intro i w w' v h hb
  unfold VG7 at h ⊢
  split at h <;> first | exact h | trivial | exact RB.below h hb | exact Own.below h hb | exact OwnV.below h hb

def VF4 (s b3 rf rl X Y Z n2 c2 : Nat) (D : Int) (a2 : Option Addr) : Nat → World → Value → Prop
  | 12, _, v => v = .pointer (some ⟨b3, 0, none⟩)
  | 13, _, v => v = .pointer (some ⟨rf, 0, none⟩)
  | 14, _, v => v = .int .i64 (X : Int)
  | 15, _, v => v = .pointer (some ⟨b3, 1, none⟩)
  | 16, _, v => v = .pointer (some ⟨rl, 0, none⟩)
  | 17, _, v => v = .int .i64 (Y : Int)
  | 18, _, v => v = .int .i64 ((X : Int) + (Y : Int))
  | 19, _, v => v = .pointer (some ⟨s, 0, none⟩)
  | 20, _, v => v = .pointer (some ⟨s, 0, none⟩)
  | 21, _, v => v = .pointer (some ⟨s, 3, none⟩)
  | 22, _, v => v = .slice a2 n2 c2
  | 23, _, v => v = .int .i64 (n2 : Int)
  | 24, _, v => v = .int .i64 D
  | 25, _, v => v = .int .i64 (Z : Int)
  | 26, _, v => v = .int .i64 ((X : Int) + (Y : Int) - (Z : Int))
  | 2, _, v => v = .int .i64 ((X : Int) + (Y : Int) - (Z : Int))
  | _, _, _ => True

theorem VF4_below (s b3 rf rl X Y Z n2 c2 : Nat) (D : Int) (a2 : Option Addr) : ∀ (i : Nat) (w w' : World) (v : Value), VF4 s b3 rf rl X Y Z n2 c2 D a2 i w v → Below w.heap.size w w' → VF4 s b3 rf rl X Y Z n2 c2 D a2 i w' v := by
  intro i w w' v h hb
  unfold VF4 at h ⊢
  split at h <;> first | exact h | trivial | exact RB.below h hb | exact Own.below h hb | exact OwnV.below h hb

section
variable {w : World} {B B' s d p g n : Nat} {L : Life} {S : Nat → Sec} {es : List EntT} {ls : List Nat} {dn : Bool}
set_option maxHeartbeats 1000000 in
set_option maxRecDepth 100000 in
theorem onames_c (hs : ST w B s d p es ls dn) (hl : es.length ≤ 32) (hn : ∀ x ∈ es, x.1.size ≤ 1000) : Calls Tryz.prog 23 #[.pointer (some ⟨s, 0, none⟩)] w fun e w' => ∃ v, e = .returned v ∧ OwnV 9 w' w.heap.size v (nmV es) ∧ Below w.heap.size w w' := by
  have C := Go.Lib.hid (onone_c hs)
  have HS := Go.Lib.hid hs
  have HN := Go.Lib.hid hn
  obtain ⟨a1, n1, c1, a2, n2, c2, h1, h2, x0, -, x2, -, -, hn1, -⟩ := hs.cells
  have HE := Go.Lib.hid h1
  have HL := Go.Lib.hid hl
  have hn1I : (n1 : Int) ≤ 32 := by omega
  have HN1 := Go.Lib.hid hn1
  clear h1 h2 hs hn hl hn1
  go_enter Tryz.func23, Tryz.ntmps23
  go_wp2_with fail
  refine C.out.mono ?_
  rintro e w1 ⟨rfl, rfl⟩
  go_wp2_with (first
    | (with_reducible show wpList _ _ _ (⟨some 13, _, _, _, _, _⟩ :: _) _ _; go_must (refine wpList_make_none rfl (.const (.int .i64 0)) (.tmp 12) 49 rfl 9 Tryz.underlying49 (.string ⟨#[]⟩) 16 infoStr .i64 .i64 _ n1 rfl rfl rfl (by omega) (by omega) ?_); intro v3 w3 ho3 hg3; have HO3 := Go.Lib.hid ho3; have HB3 := Go.Lib.hid (show Below w.heap.size w w3 from (Below.refl _ _).grown hg3 (Nat.le_refl _) (fun j hj => by cases hj)); have y2 := keptC x2 HB3.out; clear ho3 hg3)
    | fail)
  go_loopw [3, 19] (fun bv i wr => ∃ (k : Nat) (u : Value), u = bv ∧ k ≤ n1 ∧ i = .int .i64 (k : Int) ∧ OwnV 9 wr w.heap.size u (nmV (es.take k)) ∧ Below w.heap.size w wr) (fun _ i _ => n1 - (intOf i).toNat)
  case atStart => exact ⟨0, _, rfl, by omega, rfl, HO3.out, HB3.out⟩
  case round =>
    obtain ⟨k, u, rfl, hk, rfl, hown, hbw⟩ := hrel
    by_cases hlt : k < n1
    · have hke : k < es.length := by have := HN1.out; omega
      obtain ⟨b, o, rfl, -, hbs, z0, z1, z2, z3⟩ := ((HE.out.below hbw).re).at k hke
      have hkI : (k : Int) < (n1 : Int) := by omega
      have hsn : nmV (es.take (k + 1)) = nmV (es.take k) ++ [.string es[k].1] := by unfold nmV; rw [List.take_succ_eq_append_getElem hke, List.map_append]; rfl
      have hnm := HN.out es[k] (List.getElem_mem hke)
      have hlen : (nmV (es.take k)).length ≤ 32 := by rw [nmV_len, List.length_take]; have := HL.out; omega
      generalize es[k] = x at *
      obtain ⟨nm, en, ea, ess⟩ := x
      simp only at z0 z1 z2 z3 hnm hsn
      have hal := newB wr (.cells #[.string nm, .int .i64 en, .int .i64 ea, .int .i64 ess] 98)
      have hnw := heap_alloc_new wr (.cells #[.string nm, .int .i64 en, .int .i64 ea, .int .i64 ess] 98)
      obtain ⟨y0, y1, y2', y3⟩ := row4 hnw
      have CL := Go.Lib.hid (fun W => clone_c nm W (by omega))
      have HO := Go.Lib.hid (hown.below hal)
      have HBW := Go.Lib.hid (below_to hbw (Nat.le_refl _) hal)
      have HSN := Go.Lib.hid hsn
      have HLT := Go.Lib.hid hlt
      have HLEN := Go.Lib.hid hlen
      clear hown hbw hal hnw hsn hnm hlen hke hbs hk
      go_wp2_with fail
      refine (CL.out _).mono ?_
      rintro e w4 ⟨rfl, hb4⟩
      have HO4 := Go.Lib.hid ((HO.out.below hb4).alloc (.cells #[.string nm] 9))
      have HB4 := Go.Lib.hid (below_to (below_to HBW.out (Nat.le_refl _) hb4) (Nat.le_refl _) (newB w4 (.cells #[.string nm] 9)))
      have HRV := Go.Lib.hid (RV.one w4 9 (.string nm))
      clear hb4 z0 z1 z2 z3 y0 y1 y2' y3 CL
      go_wp2_with (first
        | (with_reducible show wpList _ _ _ (⟨some 28, _, _, _, _, _⟩ :: _) _ _; go_must (refine wpList_append_RV rfl (.tmp 23) (.tmp 27) 49 rfl w.heap.size 9 Tryz.underlying49 (.string ⟨#[]⟩) 16 rfl infoStr u (.slice (some ⟨w4.heap.size, 0, none⟩) 1 1) (nmV (es.take k)) [.string nm] rfl rfl HO4.out HRV.out (one_str nm) (by have := HLEN.out; simp only [List.length_cons, List.length_nil]; omega) (by have := HLEN.out; simp only [List.length_cons, List.length_nil]; omega) HB4.out.size ?_); intro v6 w6 hown6 hg6; have HO6 := Go.Lib.hid hown6; have HB6 := Go.Lib.hid (HB4.out.grown hg6 HB4.out.size HO4.out.row); clear hown6 hg6)
        | fail)
      go_roundw
      case rel => exact ⟨k + 1, _, rfl, by have := HLT.out; omega, by go_num, by rw [HSN.out]; exact HO6.out, HB6.out⟩
      case measure => simp only [intOf]; have := HLT.out; omega
    · obtain rfl : k = n1 := by omega
      rw [List.take_of_length_le (by have := HN1.out; omega)] at hown
      have HF := Go.Lib.hid (And.intro hown hbw)
      clear hown hbw
      go_wp2_with fail
      go_ret
      exact ⟨_, rfl, HF.out.1, HF.out.2⟩
set_option maxHeartbeats 1000000 in
set_option maxRecDepth 100000 in
theorem oget_c (hs : ST w B s d p es ls dn) (hd : DV w B' d g n S L) (hm : MayL es) (hu : UsedOk n es ls) (k : Nat) (hk : k < es.length) (q : ByteArray) (hq : es[k].1 = q) :
    Calls Tryz.prog 24 #[.pointer (some ⟨s, 0, none⟩), .string q] w fun e w' => ∃ v, e = .returned (.tuple #[v, .int .i64 0]) ∧ Own 5 w' w.heap.size v (contE (nowF S) es[k]) ∧ Below w.heap.size w w' := by
  subst hq
  have C := Go.Lib.hid (onone_c hs)
  have hblk := hs.blk
  obtain ⟨a1, n1, c1, a2, n2, c2, h1, h2, x0, -, x2, -, -, hn1, -⟩ := hs.cells
  have C2 := find_c _ es es[k].1 w h1.re
  rw [findE_of hm hk] at C2
  have C2 := Go.Lib.hid C2
  have hme := hm.mem es[k] (List.getElem_mem hk)
  have hsp : ∀ j ∈ spanE es[k], j < n := fun j hj => (hu.lows j (List.mem_append_left _ (List.mem_flatMap.2 ⟨es[k], List.getElem_mem hk, hj⟩))).2
  have HE := Go.Lib.hid h1
  have HD := Go.Lib.hid hd
  have HBLK := Go.Lib.hid hblk
  have hkn : (k : Int) < (n1 : Int) := by omega
  have HN1 := Go.Lib.hid hn1
  clear hn1
  have hkM : (k : Int) ≤ 32 := by have := hm.1; omega
  have HK := Go.Lib.hid hk
  have HSP := Go.Lib.hid hsp
  have HME := Go.Lib.hid hme
  clear h1 h2 hs hd hm hu hme hsp hblk
  go_enter Tryz.func24, Tryz.ntmps24
  go_wp2_with fail
  refine C.out.mono ?_
  rintro e w1 ⟨rfl, rfl⟩
  go_wp2_with fail
  refine C2.out.mono ?_
  rintro e w1 ⟨rfl, hb⟩
  obtain ⟨b, o, rfl, -, hbs, z0, z1, z2, z3⟩ := ((HE.out.below hb).re).at k HK.out
  have y2 := keptC x2 hb
  have HXE := Go.Lib.hid (show ∃ x, x = es[k] ∧ x = es[k] from ⟨_, rfl, rfl⟩)
  generalize hx : es[k] = x at *
  have HXE := Go.Lib.hid hx
  clear hx
  obtain ⟨nm, en, ea, ess⟩ := x
  simp only at z0 z1 z2 z3
  obtain ⟨m0, m1, m2, m3, m4, m5, m6, -⟩ := HME.out
  simp only at m0 m1 m2 m3 m4 m5 m6
  obtain ⟨el, rfl⟩ : ∃ a : Nat, en = (a : Int) := ⟨en.toNat, by omega⟩
  obtain ⟨a0, rfl⟩ : ∃ a : Nat, ea = (a : Int) := ⟨ea.toNat, by omega⟩
  obtain ⟨s0, hs0⟩ : ∃ a : Nat, ess = (a : Int) := ⟨ess.toNat, by omega⟩
  have hs0b : s0 ≤ 2000 := by omega
  subst hs0
  have hal := newB w1 (.cells #[.string nm, .int .i64 (el : Int), .int .i64 (a0 : Int), .int .i64 (s0 : Int)] 98)
  have HNW := Go.Lib.hid (heap_alloc_new w1 (.cells #[.string nm, .int .i64 (el : Int), .int .i64 (a0 : Int), .int .i64 (s0 : Int)] 98))
  have hb2 := below_to hb (Nat.le_refl _) hal
  have HB2 := Go.Lib.hid hb2
  obtain ⟨w2, hw2⟩ : ∃ w2, w2 = w1.alloc (.cells #[.string nm, .int .i64 (el : Int), .int .i64 (a0 : Int), .int .i64 (s0 : Int)] 98) := ⟨_, rfl⟩
  obtain ⟨b7, hb7⟩ : ∃ b7, b7 = w1.heap.size := ⟨_, rfl⟩
  have HNW2 := Go.Lib.hid (show w2.heap[b7]? = some (.cells #[.string nm, .int .i64 (el : Int), .int .i64 (a0 : Int), .int .i64 (s0 : Int)] 98) from by rw [hw2, hb7]; exact HNW.out)
  rw [← hw2] at HB2
  have HW2 := Go.Lib.hid (And.intro hw2 hb7)
  have CR := Go.Lib.hid fun (W : World) => orow_c a0 s0 (a0 : Int) (s0 : Int) W rfl rfl (by omega)
  have CD := Go.Lib.hid (show ∀ (W : World) (x : Value), Below w2.heap.size w2 W → RV W x (zi .i64 (rowL a0 s0)) → Calls Tryz.prog 47 #[.pointer (some ⟨s, 0, none⟩), x, .int .i64 (el : Int)] W fun e w' => ∃ v, e = .returned v ∧ Own 5 w' W.heap.size v (readF (nowF S) (rowL a0 s0) el) ∧ Below W.heap.size W w' from fun W x hW hx => by
    obtain ⟨vf, vl, hv, -⟩ := HBLK.out
    have hbW := below_to HB2.out (Nat.le_refl _) hW
    exact oread_c (HD.out.below hbW) (keptR hv hbW) x (rowL a0 s0) el (el : Int) rfl (by omega) hx (fun i hi => HSP.out i (by simpa [spanE] using hi)))
  have HM := Go.Lib.hid (show w.heap.size ≤ w2.heap.size from HB2.out.size)
  clear hal hb hb2 C C2 hbs m0 m1 m2 m3 m4 m5 m6
  go_upto_region 7 with (fail)
  rw [← HW2.out.1, ← HW2.out.2]
  clear hw2 hb7
  refine wp_region_each (by kernel_rfl) (VG7 w.heap.size s b7 a0 s0 el (readF (nowF S) (rowL a0 s0) el)) (VG7_below w.heap.size s b7 a0 s0 el (readF (nowF S) (rowL a0 s0) el)) (by decide +kernel) (by decide +kernel) (by rfl) [25, 26, 27, 28, 29, 30, 31, 4, 5] (by rfl) ?_ ?_
  · intro i o ho a w6 hb6 hlen hg
    obtain ⟨hc0, hc1, hc2, hc3⟩ := row4 (keptR HNW2.out hb6)
    match i, ho with
    | 0, ho =>
      obtain rfl := Option.some.inj ho
      have h0 := given_old hg 0 (by decide +kernel)
      clear hg
      exact st_yield ho (wanted_none rfl) (.pointer (some ⟨s, 0, none⟩)) w6 (by simp [execOp, Act.eval, h0, go_sem]) ⟨_, rfl, Below.refl _ _, by rintro t' ⟨⟩; rfl⟩
    | 1, ho =>
      obtain rfl := Option.some.inj ho
      have h7 := given_old hg 7 (by decide +kernel)
      clear hg
      exact st_yield ho (wanted_none rfl) (.pointer (some ⟨b7, 2, none⟩)) w6 (by simp [execOp, Act.eval, h7, go_sem]) ⟨_, rfl, Below.refl _ _, by rintro t' ⟨⟩; rfl⟩
    | 2, ho =>
      obtain rfl := Option.some.inj ho
      obtain ⟨_, h26, rfl⟩ := given_fed hg 26 (by decide +kernel)
      clear hg
      exact st_yield ho (wanted_none rfl) (.agg #[.int .i64 (a0 : Int), .int .i64 (s0 : Int)]) w6 (by simp [execOp, Act.eval, h26, go_sem, hc2, hc3]) ⟨_, rfl, Below.refl _ _, by rintro t' ⟨⟩; rfl⟩
    | 3, ho =>
      obtain rfl := Option.some.inj ho
      obtain ⟨_, h27, rfl⟩ := given_fed hg 27 (by decide +kernel)
      clear hg
      exact st_enter (w1 := w6) ho (wanted_none rfl) 48 #[.agg #[.int .i64 (a0 : Int), .int .i64 (s0 : Int)]] (by simp [execOp, Act.eval, h27, resolve, go_sem]) ((CR.out w6).mono (by rintro e w7 ⟨v, rfl, ho7, hb7⟩; exact ⟨_, rfl, _, rfl, hb7, by rintro t' ⟨⟩; exact ho7.mono (Nat.le_trans HM.out hb6.size)⟩))
    | 4, ho =>
      obtain rfl := Option.some.inj ho
      have h7 := given_old hg 7 (by decide +kernel)
      clear hg
      exact st_yield ho (wanted_none rfl) (.pointer (some ⟨b7, 1, none⟩)) w6 (by simp [execOp, Act.eval, h7, go_sem]) ⟨_, rfl, Below.refl _ _, by rintro t' ⟨⟩; rfl⟩
    | 5, ho =>
      obtain rfl := Option.some.inj ho
      obtain ⟨_, h29, rfl⟩ := given_fed hg 29 (by decide +kernel)
      clear hg
      exact st_yield ho (wanted_none rfl) (.int .i64 (el : Int)) w6 (by simp [execOp, Act.eval, h29, go_sem, hc1]) ⟨_, rfl, Below.refl _ _, by rintro t' ⟨⟩; rfl⟩
    | 6, ho =>
      obtain rfl := Option.some.inj ho
      obtain ⟨_, h25, rfl⟩ := given_fed hg 25 (by decide +kernel)
      obtain ⟨v28, h28, p28⟩ := given_fed hg 28 (by decide +kernel)
      obtain ⟨_, h30, rfl⟩ := given_fed hg 30 (by decide +kernel)
      clear hg
      exact st_enter (w1 := w6) ho (wanted_none rfl) 47 #[.pointer (some ⟨s, 0, none⟩), v28, .int .i64 (el : Int)] (by simp [execOp, Act.eval, h25, h28, h30, resolve, go_sem]) ((CD.out w6 v28 hb6 (OwnV.rv p28)).mono (by rintro e w7 ⟨v, rfl, ho7, hb7⟩; exact ⟨_, rfl, _, rfl, hb7, by rintro t' ⟨⟩; exact ho7.mono (Nat.le_trans HM.out hb6.size)⟩))
    | 7, ho =>
      obtain rfl := Option.some.inj ho
      obtain ⟨v31, h31, p31⟩ := given_fed hg 31 (by decide +kernel)
      clear hg
      exact st_yield ho (wanted_none rfl) v31 w6 (by simp [execOp, Act.eval, h31, go_sem]) ⟨_, rfl, Below.refl _ _, by rintro t' ⟨⟩; exact p31⟩
    | 8, ho =>
      obtain rfl := Option.some.inj ho
      clear hg
      exact st_yield ho (wanted_none rfl) (.int .i64 0) w6 (by simp [execOp, Act.eval, go_sem]) ⟨_, rfl, Below.refl _ _, by rintro t' ⟨⟩; rfl⟩
    | n + 9, ho => simp at ho
  · intro f5 w6 hb6 hv
    have h4 := hv 4 (by decide)
    have h5 := hv 5 (by decide)
    simp only [VG7] at h4 h5
    have HFIN := Go.Lib.hid (And.intro h4 (below_to HB2.out (Nat.le_refl _) hb6))
    clear hv h4 hb6 CR CD
    unfold putAll
    simp only [List.foldl]
    simp only [h5]
    go_simp
    go_wp2_with fail
    go_ret2
    refine ⟨f5 4, rfl, ?_, HFIN.out.2⟩
    have h := HFIN.out.1
    have h' : Own 5 w6 w.heap.size (f5 4) (contE (nowF S) (nm, (el : Int), (a0 : Int), (s0 : Int))) := by
      unfold contE spanE
      simpa using h
    exact (congrArg (fun X => Own 5 w6 w.heap.size (f5 4) X) (congrArg (contE (nowF S)) HXE.out)).mpr h'
/-- What Free counts. -/
def freeN (n : Nat) (U : List Nat) : Nat := cntF (gF n U) (2 + (n - 14)) + cntF (gL n U) (n - 12 + 12)
set_option maxHeartbeats 1000000 in
set_option maxRecDepth 100000 in
theorem ofree_c (hs : ST w B s d p es ls dn) (hd : DV w B' d g n S L) (hn : 64 ≤ n) (hu : UsedOk n es ls) (hl : ls.length ≤ 14) :
    Calls Tryz.prog 22 #[.pointer (some ⟨s, 0, none⟩)] w fun e w' => e = .returned (.int .i64 ((freeN n (usedL es ls) : Int) - ((12 - ls.length : Nat) : Int))) ∧ Below w.heap.size w w' := by
  have C := Go.Lib.hid (onone_c hs)
  have C2 := Go.Lib.hid (left_c hs hd hn hu)
  obtain ⟨a1, n1, c1, a2, n2, c2, h1, h2, x0, -, x2, x3, -, -, hn2⟩ := hs.cells
  have HN := Go.Lib.hid (And.intro hd.n1 hl)
  have HX3 := Go.Lib.hid x3
  have HN2 := Go.Lib.hid hn2
  clear h1 h2 hs hd hn hu hl x0 x2 x3
  go_enter Tryz.func22, Tryz.ntmps22
  go_wp2_with fail
  refine C.out.mono ?_
  rintro e w1 ⟨rfl, rfl⟩
  go_wp2_with fail
  refine C2.out.mono ?_
  rintro e w1 ⟨rf, rl, vf, vl, rfl, hro, hb⟩
  have hal := newB w1 (.cells #[.pointer (some ⟨rf, 0, none⟩), .pointer (some ⟨rl, 0, none⟩)] 92)
  have hnw := heap_alloc_new w1 (.cells #[.pointer (some ⟨rf, 0, none⟩), .pointer (some ⟨rl, 0, none⟩)] 92)
  have hb2 := below_to hb (Nat.le_refl _) hal
  obtain ⟨w2, hw2⟩ : ∃ w2, w2 = w1.alloc (.cells #[.pointer (some ⟨rf, 0, none⟩), .pointer (some ⟨rl, 0, none⟩)] 92) := ⟨_, rfl⟩
  obtain ⟨b3, hb3⟩ : ∃ b3, b3 = w1.heap.size := ⟨_, rfl⟩
  obtain ⟨X, hX⟩ : ∃ X : Nat, X = cntF (gF n (usedL es ls)) (2 + (n - 14)) := ⟨_, rfl⟩
  obtain ⟨Y, hY⟩ : ∃ Y : Nat, Y = cntF (gL n (usedL es ls)) (n - 12 + 12) := ⟨_, rfl⟩
  have hXb : X ≤ 4000 := by rw [hX]; have := cntF_le (gF n (usedL es ls)) (2 + (n - 14)); have := HN.out.1; omega
  have hYb : Y ≤ 4000 := by rw [hY]; have := cntF_le (gL n (usedL es ls)) (n - 12 + 12); have := HN.out.1; omega
  have C3 := Go.Lib.hid (show ∀ W, Below w2.heap.size w2 W → Calls Tryz.prog 44 #[.pointer (some ⟨rf, 0, none⟩)] W fun e w' => e = .returned (.int .i64 (X : Int)) ∧ Below W.heap.size W w' from fun W hW => by
    rw [hw2] at hW
    refine (free_q ((hro.below hal).below hW).f (X : Int) (by rw [hX])).mono ?_
    rintro e w' ⟨rfl, rfl⟩
    exact ⟨rfl, Below.refl _ _⟩)
  have C4 := Go.Lib.hid (show ∀ W, Below w2.heap.size w2 W → Calls Tryz.prog 44 #[.pointer (some ⟨rl, 0, none⟩)] W fun e w' => e = .returned (.int .i64 (Y : Int)) ∧ Below W.heap.size W w' from fun W hW => by
    rw [hw2] at hW
    refine (free_q ((hro.below hal).below hW).l (Y : Int) (by rw [hY])).mono ?_
    rintro e w' ⟨rfl, rfl⟩
    exact ⟨rfl, Below.refl _ _⟩)
  have HCC := Go.Lib.hid (show ∀ W, Below w2.heap.size w2 W → W.cell? ⟨b3, 0, none⟩ = some (.pointer (some ⟨rf, 0, none⟩)) ∧ W.cell? ⟨b3, 1, none⟩ = some (.pointer (some ⟨rl, 0, none⟩)) ∧ W.cell? ⟨s, 3, none⟩ = some (.slice a2 n2 c2) from fun W hW => by
    rw [hw2] at hW
    have h1 := cell_of2 (keptR hnw hW)
    rw [hb3]
    exact ⟨h1.1, h1.2, keptC HX3.out (below_to hb2 (Nat.le_refl _) hW)⟩)
  have HB2 := Go.Lib.hid (show Below w.heap.size w w2 from by rw [hw2]; exact hb2)
  have HW2 := Go.Lib.hid (And.intro hw2 hb3)
  have HXY := Go.Lib.hid (And.intro hX hY)
  obtain ⟨Z, hZ⟩ : ∃ Z : Nat, Z = 12 - n2 := ⟨_, rfl⟩
  have hn2b : n2 ≤ 14 := by rw [HN2.out]; exact HN.out.2
  have e24 : max 0 (IntKind.i64.wrap (12 - (n2 : Int))) = (Z : Int) := by rw [IntKind.wrap_i64]; omega
  obtain ⟨D, hD⟩ : ∃ D : Int, D = IntKind.i64.wrap (12 - (n2 : Int)) := ⟨_, rfl⟩
  rw [← hD] at e24
  have e18 : IntKind.i64.wrap ((X : Int) + (Y : Int)) = (X : Int) + (Y : Int) := by rw [IntKind.wrap_i64]; omega
  have e26 : IntKind.i64.wrap ((X : Int) + (Y : Int) - (Z : Int)) = (X : Int) + (Y : Int) - (Z : Int) := by rw [IntKind.wrap_i64]; omega
  have HZ := Go.Lib.hid (And.intro hZ (And.intro hD (And.intro e24 (And.intro e18 e26))))
  clear hX hY hZ hD e24 e18 e26 hXb hYb hn2b hro hb hb2 hal hnw C C2
  go_upto_region 4 with (fail)
  rw [← HW2.out.1, ← HW2.out.2]
  clear hw2 hb3
  refine wp_region_each (by kernel_rfl) (VF4 s b3 rf rl X Y Z n2 c2 D a2) (VF4_below s b3 rf rl X Y Z n2 c2 D a2) (by decide +kernel) (by decide +kernel) (by rfl) [12, 13, 14, 15, 16, 17, 18, 19, 20, 21, 22, 23, 24, 25, 26, 2] (by rfl) ?_ ?_
  · intro i o ho a w6 hb6 hlen hg
    have hcc := HCC.out w6 hb6
    obtain ⟨-, hD, e24, e18, e26⟩ := HZ.out
    match i, ho with
    | 0, ho =>
      obtain rfl := Option.some.inj ho
      have h3 := given_old hg 3 (by decide +kernel)
      clear hg
      exact st_yield ho (wanted_none rfl) (.pointer (some ⟨b3, 0, none⟩)) w6 (by simp [execOp, Act.eval, h3, go_sem]) ⟨_, rfl, Below.refl _ _, by rintro t' ⟨⟩; rfl⟩
    | 1, ho =>
      obtain rfl := Option.some.inj ho
      obtain ⟨_, h12, rfl⟩ := given_fed hg 12 (by decide +kernel)
      clear hg
      exact st_yield ho (wanted_none rfl) (.pointer (some ⟨rf, 0, none⟩)) w6 (by simp [execOp, Act.eval, h12, go_sem, hcc.1]) ⟨_, rfl, Below.refl _ _, by rintro t' ⟨⟩; rfl⟩
    | 2, ho =>
      obtain rfl := Option.some.inj ho
      obtain ⟨_, h13, rfl⟩ := given_fed hg 13 (by decide +kernel)
      clear hg
      exact st_enter (w1 := w6) ho (wanted_none rfl) 44 #[.pointer (some ⟨rf, 0, none⟩)] (by simp [execOp, Act.eval, h13, resolve, go_sem]) ((C3.out w6 hb6).mono (by rintro e w7 ⟨rfl, hb7⟩; exact ⟨_, rfl, _, rfl, hb7, by rintro t' ⟨⟩; rfl⟩))
    | 3, ho =>
      obtain rfl := Option.some.inj ho
      have h3 := given_old hg 3 (by decide +kernel)
      clear hg
      exact st_yield ho (wanted_none rfl) (.pointer (some ⟨b3, 1, none⟩)) w6 (by simp [execOp, Act.eval, h3, go_sem]) ⟨_, rfl, Below.refl _ _, by rintro t' ⟨⟩; rfl⟩
    | 4, ho =>
      obtain rfl := Option.some.inj ho
      obtain ⟨_, h15, rfl⟩ := given_fed hg 15 (by decide +kernel)
      clear hg
      exact st_yield ho (wanted_none rfl) (.pointer (some ⟨rl, 0, none⟩)) w6 (by simp [execOp, Act.eval, h15, go_sem, hcc.2.1]) ⟨_, rfl, Below.refl _ _, by rintro t' ⟨⟩; rfl⟩
    | 5, ho =>
      obtain rfl := Option.some.inj ho
      obtain ⟨_, h16, rfl⟩ := given_fed hg 16 (by decide +kernel)
      clear hg
      exact st_enter (w1 := w6) ho (wanted_none rfl) 44 #[.pointer (some ⟨rl, 0, none⟩)] (by simp [execOp, Act.eval, h16, resolve, go_sem]) ((C4.out w6 hb6).mono (by rintro e w7 ⟨rfl, hb7⟩; exact ⟨_, rfl, _, rfl, hb7, by rintro t' ⟨⟩; rfl⟩))
    | 6, ho =>
      obtain rfl := Option.some.inj ho
      obtain ⟨_, h14, rfl⟩ := given_fed hg 14 (by decide +kernel)
      obtain ⟨_, h17, rfl⟩ := given_fed hg 17 (by decide +kernel)
      clear hg
      exact st_yield ho (wanted_none rfl) (.int .i64 ((X : Int) + (Y : Int))) w6 (by simp [execOp, Act.eval, h14, h17, go_sem, e18]) ⟨_, rfl, Below.refl _ _, by rintro t' ⟨⟩; rfl⟩
    | 7, ho =>
      obtain rfl := Option.some.inj ho
      have h0 := given_old hg 0 (by decide +kernel)
      clear hg
      exact st_yield ho (wanted_none rfl) (.pointer (some ⟨s, 0, none⟩)) w6 (by simp [execOp, Act.eval, h0, go_sem]) ⟨_, rfl, Below.refl _ _, by rintro t' ⟨⟩; rfl⟩
    | 8, ho =>
      obtain rfl := Option.some.inj ho
      obtain ⟨_, h19, rfl⟩ := given_fed hg 19 (by decide +kernel)
      clear hg
      exact st_yield ho (wanted_none rfl) (.pointer (some ⟨s, 0, none⟩)) w6 (by simp [execOp, Act.eval, h19, go_sem]) ⟨_, rfl, Below.refl _ _, by rintro t' ⟨⟩; rfl⟩
    | 9, ho =>
      obtain rfl := Option.some.inj ho
      obtain ⟨_, h20, rfl⟩ := given_fed hg 20 (by decide +kernel)
      clear hg
      exact st_yield ho (wanted_none rfl) (.pointer (some ⟨s, 3, none⟩)) w6 (by simp [execOp, Act.eval, h20, go_sem]) ⟨_, rfl, Below.refl _ _, by rintro t' ⟨⟩; rfl⟩
    | 10, ho =>
      obtain rfl := Option.some.inj ho
      obtain ⟨_, h21, rfl⟩ := given_fed hg 21 (by decide +kernel)
      clear hg
      exact st_yield ho (wanted_none rfl) (.slice a2 n2 c2) w6 (by simp [execOp, Act.eval, h21, go_sem, hcc.2.2]) ⟨_, rfl, Below.refl _ _, by rintro t' ⟨⟩; rfl⟩
    | 11, ho =>
      obtain rfl := Option.some.inj ho
      obtain ⟨_, h22, rfl⟩ := given_fed hg 22 (by decide +kernel)
      clear hg
      exact st_yield ho (wanted_none rfl) (.int .i64 (n2 : Int)) w6 (by simp [execOp, Act.eval, h22, go_sem, resolve]) ⟨_, rfl, Below.refl _ _, by rintro t' ⟨⟩; rfl⟩
    | 12, ho =>
      obtain rfl := Option.some.inj ho
      obtain ⟨_, h23, rfl⟩ := given_fed hg 23 (by decide +kernel)
      clear hg
      exact st_yield ho (wanted_none rfl) (.int .i64 D) w6 (by simp [execOp, Act.eval, h23, go_sem, ← hD]) ⟨_, rfl, Below.refl _ _, by rintro t' ⟨⟩; rfl⟩
    | 13, ho =>
      obtain rfl := Option.some.inj ho
      obtain ⟨_, h24, rfl⟩ := given_fed hg 24 (by decide +kernel)
      clear hg
      exact st_yield ho (wanted_none rfl) (.int .i64 (Z : Int)) w6 (by simp [execOp, Act.eval, h24, go_sem, resolve, e24]) ⟨_, rfl, Below.refl _ _, by rintro t' ⟨⟩; rfl⟩
    | 14, ho =>
      obtain rfl := Option.some.inj ho
      obtain ⟨_, h18, rfl⟩ := given_fed hg 18 (by decide +kernel)
      obtain ⟨_, h25, rfl⟩ := given_fed hg 25 (by decide +kernel)
      clear hg
      exact st_yield ho (wanted_none rfl) (.int .i64 ((X : Int) + (Y : Int) - (Z : Int))) w6 (by simp [execOp, Act.eval, h18, h25, go_sem, e26]) ⟨_, rfl, Below.refl _ _, by rintro t' ⟨⟩; rfl⟩
    | 15, ho =>
      obtain rfl := Option.some.inj ho
      obtain ⟨_, h26, rfl⟩ := given_fed hg 26 (by decide +kernel)
      clear hg
      exact st_yield ho (wanted_none rfl) (.int .i64 ((X : Int) + (Y : Int) - (Z : Int))) w6 (by simp [execOp, Act.eval, h26, go_sem]) ⟨_, rfl, Below.refl _ _, by rintro t' ⟨⟩; rfl⟩
    | n + 16, ho => simp at ho
  · intro f5 w6 hb6 hv
    have h2 := hv 2 (by decide)
    simp only [VF4] at h2
    have HFIN := Go.Lib.hid (below_to HB2.out (Nat.le_refl _) hb6)
    clear hv hb6 C3 C4 HCC
    unfold putAll
    simp only [List.foldl]
    simp only [h2]
    go_simp
    go_wp2_with fail
    go_ret
    refine ⟨?_, HFIN.out⟩
    unfold freeN
    rw [← HXY.out.1, ← HXY.out.2, ← HN2.out, ← HZ.out.1]
    congr 2
end

end Go.Proofs.YtnalokjnbccjnaaGreatDoor

namespace Go.Proofs.YtnalokjnbccjnaaGreatDoor
open Go.RowKit Go.Op

theorem pig_all : ∀ (W : Nat) (B : List Nat), (∀ i, i < W → i ∈ B) → W ≤ B.length
  | 0, _, _ => Nat.zero_le _
  | W + 1, B, h => by
    have h1 := h W (by omega)
    have h2 := pig_all W (B.erase W) fun i hi => (List.mem_erase_of_ne (by omega)).2 (h i (by omega))
    rw [List.length_erase_of_mem h1] at h2
    have := List.length_pos_of_mem h1
    omega
theorem pig (W : Nat) (B : List Nat) (h : B.length < W) : ∃ i, i < W ∧ i ∉ B := by
  apply Classical.byContradiction
  intro hn
  have := pig_all W B fun i hi => Classical.byContradiction fun h2 => hn ⟨i, hi, h2⟩
  omega
/-- Of many windows one meets none of few short spans, none of few single sectors. -/
theorem window (m W : Nat) (hm : 0 < m) (R : List (Nat × Nat)) (Q : List Nat) (hR : ∀ x ∈ R, x.2 ≤ m ∧ (0 < x.2 → 2 ≤ x.1)) (h : 2 * R.length + Q.length < W) :
    ∃ i, i < W ∧ (∀ x ∈ R, ∀ k ∈ rowL x.1 x.2, ¬ (2 + i * m ≤ k ∧ k < 2 + i * m + m)) ∧ ∀ k ∈ Q, ¬ (2 + i * m ≤ k ∧ k < 2 + i * m + m) := by
  obtain ⟨i, hi, hno⟩ := pig W (R.flatMap (fun x => [(x.1 - 2) / m, (x.1 + x.2 - 3) / m]) ++ Q.map fun k => (k - 2) / m) (by
    rw [List.length_append, List.length_map, List.length_flatMap]
    have : ∀ l : List (Nat × Nat), (l.map fun x => [(x.1 - 2) / m, (x.1 + x.2 - 3) / m].length).sum = 2 * l.length := by
      intro l
      induction l with
      | nil => rfl
      | cons x l ih => rw [List.map_cons, List.sum_cons, ih, List.length_cons]; simp only [List.length_cons, List.length_nil]; omega
    rw [this]
    exact h)
  have hdiv : ∀ k, 2 + i * m ≤ k → k < 2 + i * m + m → (k - 2) / m = i := by
    intro k h1 h2
    have h3 : k - 2 = (k - 2 - i * m) + i * m := by omega
    rw [h3, Nat.add_mul_div_right _ _ hm, Nat.div_eq_of_lt (by omega), Nat.zero_add]
  refine ⟨i, hi, fun x hx k hk hw => ?_, fun k hk hw => hno (List.mem_append_right _ (List.mem_map.2 ⟨k, hk, hdiv k hw.1 hw.2⟩))⟩
  have hk' := mem_rowL.1 hk
  obtain ⟨h1, h2⟩ := hR x hx
  have h2 := h2 (by omega)
  have h3 := hdiv k hw.1 hw.2
  have h4 : (x.1 - 2) / m ≤ i := by rw [← h3]; exact Nat.div_le_div_right (by omega)
  have h5 : i ≤ (x.1 + x.2 - 3) / m := by rw [← h3]; exact Nat.div_le_div_right (by omega)
  have h6 : (x.1 + x.2 - 3) / m ≤ (x.1 - 2) / m + 1 := by
    have : (x.1 + x.2 - 3) / m ≤ (x.1 - 2 + m) / m := Nat.div_le_div_right (by omega)
    rw [Nat.add_div_right _ hm] at this
    exact this
  refine hno (List.mem_append_left _ (List.mem_flatMap.2 ⟨x, hx, ?_⟩))
  rcases (show i = (x.1 - 2) / m ∨ i = (x.1 + x.2 - 3) / m by omega) with h7 | h7
  · rw [h7]; simp
  · rw [h7]; simp

section
variable {n : Nat} {F : Nat → List UInt8} {f : Found} {es : List EntT} {ls : List Nat} {l : List PutT}
theorem OkF.list_len (h : OkF n F f es ls) : ls.length ≤ 14 := by
  obtain ⟨tx, -, h2, -, h4, -⟩ := h.text
  rw [h2]
  unfold secs
  omega
theorem OkF.list_len2 (h : OkF n F f es ls) : ls.length ≤ secs (26 * es.length + 1) := by
  obtain ⟨tx, -, h2, -, -, h5⟩ := h.text
  rw [h2]
  rcases h5 with ⟨rfl, -⟩ | rfl
  · unfold secs; simp only [List.length_nil]; omega
  · have h1 := rowP_small h.may.mem h.small
    have h3 := numP_small (n := es.length) (by have := h.may.1; omega)
    unfold lstB secs
    rw [List.length_append]
    omega
theorem lstB_list (h : OkF n F f es ls) : (lstB es).length ≤ 833 := lstB_small h.may h.small
theorem OkF.cont_len (h : OkF n F f es ls) (h64 : ∀ i, i < n → (F i).length = 64) : ∀ e ∈ es, (contE F e).length = e.2.1.toNat := by
  intro e he
  obtain ⟨m0, m1, m2, m3, m4, m5, m6, -⟩ := h.may.mem e he
  unfold contE readF
  rw [List.length_take, flat64_len fun j hj => h64 j (h.used.lows j (List.mem_append_left _ (List.mem_flatMap.2 ⟨e, he, hj⟩))).2]
  unfold spanE
  rw [rowL_length]
  omega
theorem span_secs {e : EntT} (h : mayE e) : e.2.2.2.toNat = secs e.2.1.toNat := by
  obtain ⟨m0, m1, m2, m3, m4, m5, m6, -⟩ := h
  unfold secs
  omega
/-- There is room. -/
theorem room_ok (h : OkF n F f es ls) (hn : 64 ≤ n) (hP : OkP l) (_hcnt : (keptE es l).length + (wantF l).length ≤ 32) (m W : Nat) (hm : 0 < m) (_hm2 : m ≤ 63)
    (hes : ∀ e ∈ es, secs e.2.1.toNat ≤ m) (hw : ∀ z ∈ wantF l, z.2.2.2 ≠ [] → secs z.2.2.2.length = m) (hW : W * m ≤ n - 14)
    (hfit : 2 * (es.length + (wantF l).length) + ls.length < W) (hlist : (es.length + (wantF l).length) * m + ls.length + 16 < n) : ¬ NoRoom n es ls l := by
  have hwm : ∀ z ∈ wantF l, secs z.2.2.2.length ≤ m := by
    intro z hz
    by_cases h0 : z.2.2.2 = []
    · rw [h0]; unfold secs; simp
    · rw [hw z hz h0]; exact Nat.le_refl _
  have hflat : ∀ X : List EntT, (∀ e ∈ X, (spanE e).length ≤ m) → (X.flatMap spanE).length ≤ m * X.length := fun X hX => flat_len spanE m X hX
  rintro (⟨P, x, hlt, hPm, hpl, hx, h0, hno⟩ | ⟨F', es', hp, hpl, hpe, hmay, hlt, hall⟩)
  · obtain ⟨z, hz, rfl⟩ := List.mem_map.1 hx
    have hz0 : z.2.2.2 ≠ [] := by
      intro e
      unfold freshP at h0
      rw [e] at h0
      simp at h0
    have hm3 : secs (freshP z).1.2.1.toNat = m := by
      unfold freshP
      simp only [Int.toNat_natCast]
      exact hw z hz hz0
    rw [hm3] at hno
    rw [List.length_map] at hlt
    obtain ⟨i, hi, h1, h2⟩ := window m W hm (es.map (fun e => (e.2.2.1.toNat, e.2.2.2.toNat)) ++ P.map (fun y => (y.1.2.2.1.toNat, y.1.2.2.2.toNat))) ls (by
      intro y hy
      rcases List.mem_append.1 hy with hy | hy
      · obtain ⟨e, he, rfl⟩ := List.mem_map.1 hy
        refine ⟨by simp only; rw [span_secs (h.may.mem e he)]; exact hes e he, fun h3 => ?_⟩
        simp only at h3 ⊢
        have := (h.used.files e he (by omega)).1
        omega
      · obtain ⟨q, hq, rfl⟩ := List.mem_map.1 hy
        obtain ⟨z', hz', hs⟩ := hPm q hq
        obtain ⟨z'', hz'', rfl⟩ := List.mem_map.1 hz'
        have hl' := (strip_eq hs).2.1
        rcases hpl.each q hq with ⟨-, h4⟩ | ⟨-, a, h4, h5, -⟩
        · rw [h4]; simp
        · rw [h4, hl']
          simp only [Int.toNat_natCast]
          exact ⟨hwm _ hz'', fun _ => h5⟩) (by
      rw [List.length_append, List.length_map, List.length_map]
      omega)
    refine hno (2 + i * m) ⟨by omega, ?_, fun k hk hin => ?_⟩
    · have : (i + 1) * m ≤ W * m := Nat.mul_le_mul_right m hi
      rw [Nat.add_mul] at this
      omega
    · have hk' := mem_rowL.1 hk
      unfold usedL at hin
      rcases List.mem_append.1 hin with hin | hin
      · rcases List.mem_append.1 hin with hin | hin
        · obtain ⟨e, he, hke⟩ := List.mem_flatMap.1 hin
          exact h1 _ (List.mem_append_left _ (List.mem_map.2 ⟨e, he, rfl⟩)) k hke ⟨hk'.1, hk'.2⟩
        · exact h2 k hin ⟨hk'.1, hk'.2⟩
      · obtain ⟨q, hq, hkq⟩ := List.mem_flatMap.1 hin
        exact h1 _ (List.mem_append_right _ (List.mem_map.2 ⟨q, hq, rfl⟩)) k hkq ⟨hk'.1, hk'.2⟩
  · have hsm : ∀ x ∈ es', x.2.1 ≤ 4000 := by
      intro x hx
      rcases List.mem_append.1 ((hpe.mem_iff).1 hx) with hx | hx
      · exact h.small x (mem_keptE.1 hx).1
      · obtain ⟨y, hy, rfl⟩ := List.mem_map.1 hx
        obtain ⟨z, hz, hs⟩ := fresh_put hp y hy
        rw [(strip_eq hs).2.1]
        have := (hP z (want_mem hz)).2.2
        omega
    have htl := lstB_small hmay hsm
    have hFl : F'.length = (wantF l).length := by have := hp.length_eq; simpa using this
    have h1 := hflat es fun e he => by unfold spanE; rw [rowL_length, span_secs (h.may.mem e he)]; exact hes e he
    have h2 := flat_len spanFr m F' fun y hy => by
      obtain ⟨z, hz, hs⟩ := fresh_put hp y hy
      unfold spanFr spanE
      rw [rowL_length]
      rcases hpl.each y hy with ⟨-, h4⟩ | ⟨-, a, h4, -⟩
      · rw [h4]; simp
      · rw [h4, (strip_eq hs).2.1]
        simp only [Int.toNat_natCast]
        exact hwm z hz
    have h3 := pig_all (n - 2) ((usedL es ls ++ F'.flatMap spanFr ++ takeL n (usedL es ls ++ F'.flatMap spanFr) (secs (lstB es').length)).map (· - 2)) fun i hi => List.mem_map.2 ⟨i + 2, hall (i + 2) (by omega) (by omega), by omega⟩
    rw [List.length_map] at h3
    unfold usedL at h3 hlt
    simp only [List.length_append] at h3
    have h4 : (takeL n ((es.flatMap spanE ++ ls) ++ F'.flatMap spanFr) (secs (lstB es').length)).length < 14 := Nat.lt_of_lt_of_le hlt (by unfold secs; omega)
    rw [hFl] at h2
    rw [Nat.add_mul, Nat.mul_comm es.length, Nat.mul_comm (wantF l).length] at hlist
    omega

/-- How many files there are then. -/
theorem count_done (h : MayL es) : (keptE es l).length + (wantF l).length = (doneL (filesF F es) l).length := by
  have h1 : ((keptE es l).map (·.1)).Nodup := by
    unfold keptE
    exact (List.filter_sublist.map _).nodup (may_names h)
  have h2 : (((keptE es l).map (·.1)) ++ ((wantF l).map (·.1))).Nodup := by
    rw [List.nodup_append]
    refine ⟨h1, wantF_names l, fun a ha b hb hab => ?_⟩
    obtain ⟨x, hx, rfl⟩ := List.mem_map.1 ha
    obtain ⟨z, hz, rfl⟩ := List.mem_map.1 hb
    have e1 := (mem_keptE.1 hx).2
    have e2 := (mem_wantF.1 hz).1
    rw [hab, e2] at e1
    cases e1
  have hr := rise_done (may_rise h F) l
  have h3 : ((doneL (filesF F es) l).map (·.1)).Nodup := by
    rw [List.Nodup, List.pairwise_map]
    exact hr.imp fun h => ltN_ne h
  have hin : ∀ q, q ∈ (doneL (filesF F es) l).map (·.1) ↔ lookF (doneL (filesF F es) l) q ≠ none := by
    intro q
    constructor
    · intro hq e
      obtain ⟨y, hy, rfl⟩ := List.mem_map.1 hq
      exact look_none.1 e y hy rfl
    · intro hq
      cases hl : lookF (doneL (filesF F es) l) q with
      | none => exact absurd hl hq
      | some b => exact List.mem_map.2 ⟨_, look_mem hl, rfl⟩
  have hp := (List.perm_ext_iff_of_nodup h2 h3).2 fun q => by
    rw [hin, look_done, List.mem_append]
    cases hl : lookP l q with
    | some y =>
      obtain ⟨k, hk, -, hk2, -⟩ := lookP_iff.1 hl
      simp only
      unfold valP
      constructor
      · rintro (hq | hq)
        · obtain ⟨x, hx, rfl⟩ := List.mem_map.1 hq
          have := (mem_keptE.1 hx).2
          rw [hl] at this
          cases this
        · obtain ⟨z, hz, rfl⟩ := List.mem_map.1 hq
          have hz' := mem_wantF.1 hz
          rw [hl] at hz'
          obtain rfl := Option.some.inj hz'.1
          rw [hz'.2]
          simp
      · intro hq
        cases hg : y.2.1 with
        | true => rw [hg] at hq; simp at hq
        | false => exact .inr (List.mem_map.2 ⟨y, mem_wantF.2 ⟨by rw [hk2]; exact hl, hg⟩, hk2⟩)
    | none =>
      simp only
      constructor
      · rintro (hq | hq)
        · obtain ⟨x, hx, rfl⟩ := List.mem_map.1 hq
          intro e
          exact look_none.1 e (x.1, contE F x) (List.mem_map.2 ⟨x, (mem_keptE.1 hx).1, rfl⟩) rfl
        · obtain ⟨z, hz, rfl⟩ := List.mem_map.1 hq
          have hz' := (mem_wantF.1 hz).1
          rw [hl] at hz'
          cases hz'
      · intro hq
        cases hl2 : lookF (filesF F es) q with
        | none => exact absurd hl2 hq
        | some b =>
          obtain ⟨e, he, he2⟩ := List.mem_map.1 (look_mem hl2)
          have h5 : e.1 = q := congrArg Prod.fst he2
          exact .inl (List.mem_map.2 ⟨e, mem_keptE.2 ⟨he, by rw [h5]; exact hl⟩, h5⟩)
  have := hp.length_eq
  simpa using this
end

end Go.Proofs.YtnalokjnbccjnaaGreatDoor

namespace Go.Proofs.YtnalokjnbccjnaaGreatDoor
open Go.RowKit

section
variable (w : World)
set_option maxRecDepth 100000
theorem dcalls_nil : Calls Tryz.prog 27 #[.pointer none] w fun e w' => e = .returned (.int .i64 0) ∧ w = w' := by
  go_enter Tryz.func27, Tryz.ntmps27
  go_wp2_with fail
  go_ret
  exact ⟨rfl, rfl⟩

variable {B d g n : Nat} {S : Nat → Sec} {L : Life}
variable {w}
theorem dcalls_c (h : DV w B d g n S L) : Calls Tryz.prog 27 #[.pointer (some ⟨d, 0, none⟩)] w fun e w' => e = .returned (.int .i64 L.calls) ∧ w = w' := by
  have c1 := h.c1
  clear h
  go_enter Tryz.func27, Tryz.ntmps27
  go_wp2_with fail
  go_ret
  exact ⟨rfl, rfl⟩
end

end Go.Proofs.YtnalokjnbccjnaaGreatDoor

namespace Go.Proofs.YtnalokjnbccjnaaGreatDoor
open Go.RowKit

theorem tickN_life (k : Nat) : ∀ j, tickN (lifeN k) j = lifeN (k + j)
  | 0 => rfl
  | j + 1 => by
    show (tickN (lifeN k) j).tick = _
    rw [tickN_life k j, lifeN_tick]
    rfl
/-- A store that answers, all of it from block M on, holds the files X; its text has been saved t times at most. -/
structure LW (w : World) (M s d g p n : Nat) (L : Life) (t : Nat) (X : FL) : Prop where
  out : ∃ F f es ls, LV w M s d g p n F L f es ls ∧ filesF F es = X ∧ f.turn ≤ t
/-- A device behind a crash that holds such a store. -/
structure LD (w : World) (M d g n : Nat) (t : Nat) (X : FL) : Prop where
  out : ∃ F f es ls, DV w M d g n (calmS F) (lifeN 0) ∧ OkF n F f es ls ∧ filesF F es = X ∧ f.turn ≤ t
  n0 : 64 ≤ n
section
variable {w w' : World} {M M' s d g p n t : Nat} {L : Life} {X : FL}
theorem LW.below (h : LW w M s d g p n L t X) (hb : Below w.heap.size w w') : LW w' M s d g p n L t X := by
  obtain ⟨F, f, es, ls, h1, h2, h3⟩ := h.out
  exact ⟨⟨F, f, es, ls, h1.below hb, h2, h3⟩⟩
theorem LW.mono (h : LW w M s d g p n L t X) (hB : M' ≤ M) : LW w M' s d g p n L t X := by
  obtain ⟨F, f, es, ls, h1, h2, h3⟩ := h.out
  exact ⟨⟨F, f, es, ls, h1.mono hB, h2, h3⟩⟩
theorem LW.low (h : LW w M s d g p n L t X) : M ≤ s ∧ M ≤ d ∧ M ≤ g ∧ M ≤ p := by
  obtain ⟨F, f, es, ls, h1, h2, h3⟩ := h.out
  obtain ⟨tx, hs⟩ := h1.su
  exact ⟨h1.st.low, h1.dv.lowd, h1.dv.lowg, hs.low⟩
theorem LW.size (h : LW w M s d g p n L t X) : M ≤ w.heap.size := by
  obtain ⟨F, f, es, ls, h1, h2, h3⟩ := h.out
  have := h1.st.low
  have := h1.st.lt
  omega
theorem LW.rise (h : LW w M s d g p n L t X) : RiseF X := by
  obtain ⟨F, f, es, ls, h1, rfl, h3⟩ := h.out
  exact may_rise h1.ok.may F
theorem LW.len (h : LW w M s d g p n L t X) : X.length ≤ 32 := by
  obtain ⟨F, f, es, ls, h1, rfl, h3⟩ := h.out
  rw [filesF_len]
  exact h1.ok.may.1
theorem LW.lens (h : LW w M s d g p n L t X) : ∀ x ∈ X, 1 ≤ x.1.size ∧ x.1.size ≤ 20 ∧ x.2.length ≤ 4000 := by
  obtain ⟨F, f, es, ls, h1, rfl, h3⟩ := h.out
  intro x hx
  obtain ⟨e, he, rfl⟩ := List.mem_map.1 hx
  have hm := h1.ok.may.mem e he
  have := h1.ok.small e he
  simp only
  rw [h1.ok.cont_len (fun i hi => h1.dv.whole64 hi) e he]
  exact ⟨hm.1, hm.2.1, by omega⟩
theorem LW.offs_below (h : LW w M s d g p n L t X) (ho : Offs [s, d, g, p] w w') : Below M w w' := by
  obtain ⟨h1, h2, h3, h4⟩ := h.low
  exact ho.below (fun k hk => by simp only [List.mem_cons, List.not_mem_nil, or_false] at hk; rcases hk with rfl | rfl | rfl | rfl <;> assumption) h.size
theorem LW.rowKept {e : TypeId} {B sz m : Nat} {v : Value} {xs : List Value} (h : LW w M s d g p n L t X) (hr : w.ownsRow B e sz v m xs) (ho : Offs [s, d, g, p] w w') (h1 : e ≠ 64) (h2 : e ≠ 88) (h3 : e ≠ 125) (h4 : e ≠ 73) : w'.ownsRow B e sz v m xs := by
  obtain ⟨F, f, es, ls, h5, -, -⟩ := h.out
  obtain ⟨tx, hs⟩ := h5.su
  obtain ⟨vf, vl, hb, -⟩ := h5.st.blk
  refine row_keep hr fun k cs fr _ hc => ho.block k (Array.getElem?_eq_some_iff.1 hc).1 ?_
  have a := ap_dev h5.dv hc h1 h2
  have b := ap_su hs hc h3
  have c : k ≠ s := by
    rintro rfl
    rw [hb] at hc
    simp only [Option.some.injEq, Obj.cells.injEq] at hc
    exact h4 hc.2.1.symm
  simp [a.1, a.2, b, c]
theorem LW.ownKept {B : Nat} {v : Value} {x : List UInt8} (h : LW w M s d g p n L t X) (hr : Own 5 w B v x) (ho : Offs [s, d, g, p] w w') : Own 5 w' B v x := h.rowKept (xs := cells x) hr ho (by decide) (by decide) (by decide) (by decide)
theorem LD.below (h : LD w M d g n t X) (hb : Below w.heap.size w w') : LD w' M d g n t X := by
  obtain ⟨F, f, es, ls, h1, h2, h3, h4⟩ := h.out
  exact ⟨⟨F, f, es, ls, h1.below hb, h2, h3, h4⟩, h.n0⟩

theorem make_ok (hd : DV w M d g n (calmS fun _ => zeros) (lifeN 0)) (hT : Tab w) (hn : 64 ≤ n) (hB : 0 < M) (hBw : M ≤ w.heap.size) :
    Calls Tryz.prog 12 #[.pointer (some ⟨d, 0, none⟩)] w fun e w' => ∃ s p, e = .returned (.tuple #[.pointer (some ⟨s, 0, none⟩), .int .i64 0]) ∧ LW w' M s d g p n (lifeN 4) 1 [] ∧ Tab w' ∧ Below M w w' ∧ Offs [d, g] w w' ∧ w.heap.size ≤ s ∧ w.heap.size ≤ p := by
  refine (omake_c hd (by omega) hT rfl rfl hn hB hBw).mono ?_
  rintro e w' ⟨s, p, F', rfl, h1, h2, h3, h4, h5⟩
  exact ⟨s, p, rfl, ⟨⟨F', _, _, _, h1, rfl, Nat.le_refl _⟩⟩, h3, h2.below (fun k hk => by simp only [List.mem_cons, List.not_mem_nil, or_false] at hk; rcases hk with rfl | rfl; exact hd.lowd; exact hd.lowg) hBw, h2, h4, h5⟩
theorem crash_ok (h : LW w M s d g p n L t X) (kv : Value) (keep : List Bool) (hv : RV w kv (zb keep)) : Calls Tryz.prog 19 #[.pointer (some ⟨d, 0, none⟩), kv] w fun e w' => ∃ d' g', e = .returned (.pointer (some ⟨d', 0, none⟩)) ∧ LD w' w.heap.size d' g' n t X ∧ Below w.heap.size w w' := by
  obtain ⟨F, f, es, ls, h1, h2, h3⟩ := h.out
  refine (scrash_c h1.dv kv keep hv).mono ?_
  rintro e w' ⟨d', g', rfl, hd, hb⟩
  exact ⟨d', g', rfl, ⟨⟨F, f, es, ls, hd, h1.ok, h2, h3⟩, h1.n0⟩, hb⟩
theorem open_ok (h : LD w M d g n t X) (hT : Tab w) (hB : M ≤ w.heap.size) : Calls Tryz.prog 20 #[.pointer (some ⟨d, 0, none⟩)] w fun e w' => ∃ s p, e = .returned (.tuple #[.pointer (some ⟨s, 0, none⟩), .int .i64 0]) ∧ LW w' M s d g p n (lifeN 0) t X ∧ Below w.heap.size w w' ∧ w.heap.size ≤ s ∧ w.heap.size ≤ p := by
  obtain ⟨F, f, es, ls, h1, h2, h3, h4⟩ := h.out
  refine (oopen_c h1 hT h2 h.n0 hB).mono ?_
  rintro e w' ⟨s, p, rfl, h5, h6, h7, h8⟩
  exact ⟨s, p, rfl, ⟨⟨F, f, es, ls, h5, h3, h4⟩⟩, h6, h7, h8⟩
theorem names_ok (h : LW w M s d g p n L t X) : Calls Tryz.prog 23 #[.pointer (some ⟨s, 0, none⟩)] w fun e w' => ∃ v, e = .returned v ∧ OwnV 9 w' w.heap.size v (X.map fun x => .string x.1) ∧ Below w.heap.size w w' := by
  obtain ⟨F, f, es, ls, h1, rfl, h3⟩ := h.out
  refine (onames_c h1.st h1.ok.may.1 (fun x hx => by have := (h1.ok.may.mem x hx).2.1; omega)).mono ?_
  rintro e w' ⟨v, rfl, hv, hb⟩
  refine ⟨v, rfl, ?_, hb⟩
  have e : (filesF F es).map (fun x => Value.string x.1) = nmV es := by
    unfold filesF nmV
    rw [List.map_map]
    rfl
  rw [e]
  exact hv
theorem get_ok (h : LW w M s d g p n L t X) (q : ByteArray) (b : List UInt8) (hq : lookF X q = some b) : Calls Tryz.prog 24 #[.pointer (some ⟨s, 0, none⟩), .string q] w fun e w' => ∃ v, e = .returned (.tuple #[v, .int .i64 0]) ∧ Own 5 w' w.heap.size v b ∧ Below w.heap.size w w' := by
  obtain ⟨F, f, es, ls, h1, rfl, h3⟩ := h.out
  obtain ⟨e, he, he2⟩ := List.mem_map.1 (look_mem hq)
  obtain ⟨k, hk, rfl⟩ := List.mem_iff_getElem.1 he
  obtain ⟨e1, e2⟩ := Prod.mk.inj he2
  rw [← e2]
  exact oget_c h1.st h1.dv h1.ok.may h1.ok.used k hk q e1
theorem get_no (h : LW w M s d g p n L t X) (q : ByteArray) (hq : lookF X q = none) : Calls Tryz.prog 24 #[.pointer (some ⟨s, 0, none⟩), .string q] w fun e w' => e = .returned (.tuple #[.slice none 0 0, .int .i64 6]) ∧ Below w.heap.size w w' := by
  obtain ⟨F, f, es, ls, h1, rfl, h3⟩ := h.out
  exact oget_none h1.st q fun j hj => look_none.1 hq (es[j].1, contE F es[j]) (List.mem_map.2 ⟨es[j], List.getElem_mem hj, rfl⟩)
theorem down_no (h : LW w M s d g p n L t X) : Calls Tryz.prog 15 #[.pointer (some ⟨s, 0, none⟩)] w fun e w' => e = .returned (.bool false) ∧ w = w' := by
  obtain ⟨F, f, es, ls, h1, rfl, h3⟩ := h.out
  exact odown_c h1.st
theorem calls_ok (h : LW w M s d g p n L t X) : Calls Tryz.prog 27 #[.pointer (some ⟨d, 0, none⟩)] w fun e w' => e = .returned (.int .i64 L.calls) ∧ w = w' := by
  obtain ⟨F, f, es, ls, h1, rfl, h3⟩ := h.out
  exact dcalls_c h1.dv
theorem cnt_iv (_n a b : Nat) (U : List Nat) (hU : U.Nodup) (hab : a ≤ b) (G : Nat → Bool) (hG : ∀ k, G k = true ↔ a ≤ k ∧ k < b ∧ k ∉ U) : cntF G b + (U.filter fun k => decide (a ≤ k ∧ k < b)).length = b - a := by
  have h1 : cntF G b = ((List.range b).filter G).length := by
    have : ∀ m, cntF G m = ((List.range m).filter G).length := by
      intro m
      induction m with
      | zero => rfl
      | succ m ih =>
        rw [List.range_succ, List.filter_append, List.length_append, ← ih]
        show cntF G m + _ = _
        congr 1
        cases hm : G m <;> simp [hm]
    exact this b
  have h2 : (((List.range b).filter G) ++ (U.filter fun k => decide (a ≤ k ∧ k < b))).Perm (rowL a (b - a)) := by
    refine (List.perm_ext_iff_of_nodup ?_ (rowL_nodup _ _)).2 fun k => ?_
    · rw [List.nodup_append]
      refine ⟨List.filter_sublist.nodup List.nodup_range, List.filter_sublist.nodup hU, fun x hx y hy e => ?_⟩
      subst e
      exact ((hG x).1 (List.mem_filter.1 hx).2).2.2 (List.mem_filter.1 hy).1
    · rw [List.mem_append, List.mem_filter, List.mem_filter, mem_rowL, hG, List.mem_range, decide_eq_true_eq]
      by_cases hk : k ∈ U
      · simp only [hk, not_true_eq_false, and_false, true_and, false_or]
        omega
      · simp only [hk, not_false_eq_true, and_true, false_and, or_false]
        omega
  have h3 := h2.length_eq
  rw [List.length_append, rowL_length] at h3
  omega
theorem free_len {n : Nat} {U : List Nat} (hn : 64 ≤ n) (hU : U.Nodup) (hlow : ∀ k ∈ U, 2 ≤ k ∧ k < n) : freeN n U + U.length = n - 2 := by
  unfold freeN
  have h1 := cnt_iv n 2 (2 + (n - 14)) U hU (by omega) (gF n U) (fun k => by rw [gF_iff, show 2 + (n - 14) = n - 12 from by omega])
  have h2 := cnt_iv n (n - 12) (n - 12 + 12) U hU (by omega) (gL n U) (fun k => by rw [gL_iff, show n - 12 + 12 = n from by omega])
  have h3 : (U.filter fun k => decide (2 ≤ k ∧ k < 2 + (n - 14))).length + (U.filter fun k => decide (n - 12 ≤ k ∧ k < n - 12 + 12)).length = U.length := by
    have : ∀ V : List Nat, (∀ k ∈ V, 2 ≤ k ∧ k < n) → (V.filter fun k => decide (2 ≤ k ∧ k < 2 + (n - 14))).length + (V.filter fun k => decide (n - 12 ≤ k ∧ k < n - 12 + 12)).length = V.length := by
      intro V
      induction V with
      | nil => intro _; rfl
      | cons x V ih =>
        intro hV
        have ih := ih fun k hk => hV k (List.mem_cons_of_mem _ hk)
        have hx := hV x (List.mem_cons_self ..)
        rw [List.filter_cons, List.filter_cons]
        by_cases hc : x < 2 + (n - 14)
        · rw [if_pos (by simp; omega), if_neg (by simp; omega), List.length_cons, List.length_cons]
          omega
        · rw [if_neg (by simp; omega), if_pos (by simp; omega), List.length_cons, List.length_cons]
          omega
    exact this U hlow
  omega
/-- What Free answers. -/
theorem free_ok (h : LW w M s d g p n L t X) : Calls Tryz.prog 22 #[.pointer (some ⟨s, 0, none⟩)] w fun e w' => ∃ r : Int, e = .returned (.int .i64 r) ∧ Below w.heap.size w w' ∧ (X = [] → r = (n : Int) - 14) ∧ (∀ m : Nat, (∀ x ∈ X, secs x.2.length ≤ m) → (n : Int) - 28 - (m * X.length : Nat) ≤ r) ∧ r ≤ n := by
  obtain ⟨F, f, es, ls, h1, rfl, h3⟩ := h.out
  have hll := h1.ok.list_len
  refine (ofree_c h1.st h1.dv h1.n0 h1.ok.used hll).mono ?_
  rintro e w' ⟨rfl, hb⟩
  have hf := free_len h1.n0 h1.ok.used.nodup h1.ok.used.lows
  have hn := h1.n0
  have hul : (usedL es ls).length = (es.flatMap spanE).length + ls.length := by unfold usedL; rw [List.length_append]
  refine ⟨_, rfl, hb, fun h0 => ?_, fun m hm => ?_, by omega⟩
  · have h4 : es = [] := by
      have := congrArg List.length h0
      rw [filesF_len] at this
      exact List.eq_nil_of_length_eq_zero this
    subst h4
    obtain ⟨tx, -, h5, -, -, h6⟩ := h1.ok.text
    have h7 : ls.length ≤ 1 := by
      rw [h5]
      rcases h6 with ⟨rfl, -⟩ | rfl
      · decide
      · have : (lstB []).length ≤ 1 := by
          have := numP_small (n := 0) (by omega)
          unfold lstB rowP
          simpa using this
        unfold secs
        omega
    rw [hul] at hf
    simp only [List.flatMap_nil, List.length_nil, Nat.zero_add] at hf
    omega
  · have h4 := flat_len spanE m es fun e he => by
      unfold spanE
      rw [rowL_length, span_secs (h1.ok.may.mem e he), ← h1.ok.cont_len (fun i hi => h1.dv.whole64 hi) e he]
      exact hm (e.1, contE F e) (List.mem_map.2 ⟨e, he, rfl⟩)
    rw [filesF_len]
    omega
end

section
variable {w : World} {M s d g p n t k : Nat} {L : Life} {X : FL} {v : Value} {l : List PutT}
/-- An Apply that there is room for, of a device that lives. -/
theorem apply_ok (h : LW w M s d g p n (lifeN k) t X) (hT : Tab w) (hB : 0 < M) (hv : RPt w v l) (hl : l.length ≤ 19) (hP : OkP l) (hne : l ≠ []) (hX : (doneL X l).length ≤ 32) (hk : k ≤ 900000) (ht : t ≤ 1000000)
    (m W : Nat) (hm : 0 < m) (hm2 : m ≤ 63) (hXm : ∀ x ∈ X, secs x.2.length ≤ m) (hlm : ∀ z ∈ l, z.2.1 = false → z.2.2.2 ≠ [] → secs z.2.2.2.length = m) (hW : W * m ≤ n - 14) (hfit : 2 * (X.length + l.length) + secs (26 * X.length + 1) < W) (hlist : (X.length + l.length) * m + 30 < n) :
    Calls Tryz.prog 16 #[.pointer (some ⟨s, 0, none⟩), v] w fun e w' => e = .returned (.int .i64 0) ∧ (∃ k', k' ≤ k + 1400 ∧ LW w' M s d g p n (lifeN k') (t + 1) (doneL X l)) ∧ Tab w' ∧ Below M w w' ∧ Offs [s, d, g, p] w w' := by
  obtain ⟨F, f, es, ls, h1, rfl, h3⟩ := h.out
  have hcd := count_done (F := F) (l := l) h1.ok.may
  have hmis : l.any misP = false := List.any_eq_false.2 fun x hx => by
    have := hP x hx
    unfold misP
    simp only [Bool.or_eq_true, decide_eq_true_eq, not_or]
    omega
  refine (oapply_c h1 hT hB v l hv (.inl hl) (fun x hx => (hP x hx).2.2) (by show (k : Int) ≤ 900000; omega) (by omega)).mono ?_
  rintro e w' ⟨r, rfl, hend⟩
  rcases hend with ⟨-, h4, -⟩ | ⟨-, h4, -⟩ | ⟨-, -, h4, -⟩ | ⟨-, -, h4, h5, -⟩ | ⟨-, -, h5, h6, f', es', ls', j, h7, h8, h9⟩
  · rw [hmis] at h4; cases h4
  · exact absurd h4 hne
  · omega
  · exfalso
    rw [filesF_len] at hfit hlist
    have hwl := wantF_len l
    have hll := h1.ok.list_len
    have hll2 := h1.ok.list_len2
    refine room_ok h1.ok h1.n0 hP h4 m W hm hm2 (fun e he => ?_) (fun z hz h0 => hlm z (want_mem hz) (mem_wantF.1 hz).2 h0) hW (by omega) ?_ h5
    · rw [← h1.ok.cont_len (fun i hi => h1.dv.whole64 hi) e he]
      exact hXm (e.1, contE F e) (List.mem_map.2 ⟨e, he, rfl⟩)
    · have : (es.length + (wantF l).length) * m ≤ (es.length + l.length) * m := Nat.mul_le_mul_right m (by omega)
      omega
  · rcases h9 with ⟨rfl, F', h10, h11⟩ | ⟨-, h10, -⟩
    · rw [tickN_life] at h10
      exact ⟨rfl, ⟨k + j, by omega, ⟨⟨F', f', es', ls', h10, h11, by omega⟩⟩⟩, h6, h.offs_below h5, h5⟩
    · rw [tickN_life] at h10
      cases h10
/-- An Apply of puts one of which may not be. -/
theorem apply_form (h : LW w M s d g p n L t X) (hT : Tab w) (hB : 0 < M) (hv : RPt w v l) (hl : l.length ≤ 19) (hb : ∀ x ∈ l, x.2.2.2.length ≤ 4000) (hmis : l.any misP = true) (hc : L.calls ≤ 900000) (ht : t ≤ 1000000) :
    Calls Tryz.prog 16 #[.pointer (some ⟨s, 0, none⟩), v] w fun e w' => e = .returned (.int .i64 1) ∧ Below w.heap.size w w' := by
  obtain ⟨F, f, es, ls, h1, rfl, h3⟩ := h.out
  refine (oapply_c h1 hT hB v l hv (.inl hl) hb hc (by omega)).mono ?_
  rintro e w' ⟨r, rfl, hend⟩
  rcases hend with ⟨rfl, -, h4⟩ | ⟨-, h4, -⟩ | ⟨-, ⟨-, h4⟩, -⟩ | ⟨-, ⟨-, h4⟩, -⟩ | ⟨⟨-, h4⟩, -⟩
  · exact ⟨rfl, h4⟩
  · rw [h4] at hmis; cases hmis
  all_goals (rw [hmis] at h4; cases h4)
/-- An Apply of nothing. -/
theorem apply_idle (h : LW w M s d g p n L t X) (hT : Tab w) (hB : 0 < M) (hv : RPt w v []) (hc : L.calls ≤ 900000) (ht : t ≤ 1000000) :
    Calls Tryz.prog 16 #[.pointer (some ⟨s, 0, none⟩), v] w fun e w' => e = .returned (.int .i64 0) ∧ Below w.heap.size w w' := by
  obtain ⟨F, f, es, ls, h1, rfl, h3⟩ := h.out
  refine (oapply_c h1 hT hB v [] hv (.inl (by simp)) (fun x hx => absurd hx (by simp)) hc (by omega)).mono ?_
  rintro e w' ⟨r, rfl, hend⟩
  rcases hend with ⟨-, h4, -⟩ | ⟨rfl, -, h4⟩ | ⟨-, ⟨h4, -⟩, -⟩ | ⟨-, ⟨h4, -⟩, -⟩ | ⟨⟨h4, -⟩, -⟩
  · cases h4
  · exact ⟨rfl, h4⟩
  all_goals exact absurd rfl h4
end

/-- A byte of somebody's is set: the super's own text may be another then, nothing else. -/
theorem TX.setByte {w : World} {v : Value} {x : List UInt8} {bg j : Nat} {cs : Array Value} {fr : Nat × Nat} (h : TX w v x) (hb : w.heap[bg]? = some (.cells cs 5 fr)) (c : UInt8) : ∃ x', x'.length = x.length ∧ TX (w.setCell ⟨bg, j, none⟩ (.int .u8 (c.toNat : Int))) v x' := by
  have hs := heap_set hb j (.int .u8 (c.toNat : Int))
  by_cases hx : x = []
  · subst hx
    obtain ⟨a, cap, hv, h1, h2, h3, -⟩ := h.1
    exact ⟨[], rfl, ⟨a, cap, hv, h1, h2, h3, fun h => absurd rfl h⟩, fun h => absurd rfl h⟩
  · obtain ⟨b, o, n, cap, cur, fr', hv, hcur⟩ := h.2 hx
    obtain ⟨a', cap', hv', h1, h2, h3, h4⟩ := h.1
    rw [hv] at hv'
    simp only [Value.slice.injEq] at hv'
    obtain ⟨rfl, hn, rfl⟩ := hv'
    obtain ⟨b', o', hbo, h5⟩ := h4 hx
    simp only [Option.some.injEq, Addr.mk.injEq, and_true] at hbo
    obtain ⟨rfl, rfl⟩ := hbo
    by_cases hbb : b = bg
    · subst hbb
      rw [hb] at hcur
      obtain ⟨rfl, -, rfl⟩ : cs = cur ∧ True ∧ fr = fr' := by simpa using hcur
      have hlen : (if o ≤ j ∧ j < o + x.length then x.set (j - o) c else x).length = x.length := by split <;> simp
      refine ⟨if o ≤ j ∧ j < o + x.length then x.set (j - o) c else x, hlen, ⟨_, cap, by rw [hlen, ← hn]; exact hv, by rw [hlen]; exact h1, h2, h3, fun _ => ⟨b, o, rfl, fun i hi => ?_⟩⟩, fun _ => ⟨b, o, n, cap, _, _, hv, hs⟩⟩
      have hi' : i < x.length := by rw [hlen] at hi; exact hi
      have h6 := h5 i hi'
      rw [cell_of_row w b (o + i) _ _ _ hb] at h6
      rw [cell_of_row _ b (o + i) _ _ _ hs, Array.getElem?_setIfInBounds]
      by_cases hj : j = o + i
      · subst hj
        rw [if_pos rfl, if_pos (Array.getElem?_eq_some_iff.1 h6).1]
        have hc : o ≤ o + i ∧ o + i < o + x.length := by omega
        simp only [hc, and_self, if_true, Nat.add_sub_cancel_left, List.getElem_set_self]
      · rw [if_neg hj, h6]
        congr 2
        by_cases hc : o ≤ j ∧ j < o + x.length
        · simp only [hc, and_self, if_true]
          rw [List.getElem_set_ne (by omega)]
        · simp only [hc, if_false]
    · refine ⟨x, rfl, ⟨_, cap, by rw [← hn]; exact hv, h1, h2, h3, fun _ => ⟨b, o, rfl, fun i hi => ?_⟩⟩, fun _ => ⟨b, o, n, cap, cur, fr', hv, (Below.heap_setCell _ _ _ _ hbb).trans hcur⟩⟩
      have h6 := h5 i hi
      rw [cell_of_row w b (o + i) _ _ _ hcur] at h6
      rw [cell_of_row _ b (o + i) _ _ _ ((Below.heap_setCell _ _ _ _ hbb).trans hcur)]
      exact h6
theorem LW.setByte {w : World} {M s d g p n t : Nat} {L : Life} {X : FL} {bg : Nat} {cs : Array Value} {fr : Nat × Nat} (h : LW w M s d g p n L t X) (hb : w.heap[bg]? = some (.cells cs 5 fr)) (j : Nat) (c : UInt8) (x : Int) (hx : x = (c.toNat : Int)) : LW (w.setCell ⟨bg, j, none⟩ (.int .u8 x)) M s d g p n L t X := by
  subst hx
  obtain ⟨F, f, es, ls, h5, h6, h7⟩ := h.out
  obtain ⟨tx, hs⟩ := h5.su
  have ho : Offs [bg] w (w.setCell ⟨bg, j, none⟩ (.int .u8 (c.toNat : Int))) := (Offs.refl _ _).set (by simp) _ _
  have a := ap_dev h5.dv hb (by decide) (by decide)
  have b := ap_su hs hb (by decide)
  refine ⟨⟨F, f, es, ls, ⟨h5.st.offs ho ?_, h5.dv.offs ho (by simp; exact Ne.symm a.1) (by simp; exact Ne.symm a.2), ?_, h5.ok, h5.n0⟩, h6, h7⟩⟩
  · intro k hk cs' t' fr' hc
    obtain rfl : k = bg := by simpa using hk
    rw [hb] at hc
    simp only [Option.some.injEq, Obj.cells.injEq] at hc
    rw [← hc.2.1]
    exact ⟨by decide, by decide, by decide⟩
  · obtain ⟨v, hv, htx⟩ := hs.blk
    obtain ⟨x', hl, htx'⟩ := htx.setByte (j := j) hb c
    exact ⟨x', ⟨⟨v, (Below.heap_setCell _ _ _ _ (Ne.symm b)).trans hv, htx'⟩, hs.low, ⟨hs.fits.slot, by rw [hl]; exact hs.fits.text, hs.fits.turn⟩⟩⟩
theorem own_blk {e : TypeId} {w : World} {B g n c : Nat} {l : List UInt8} (h : Own e w B (.slice (some ⟨g, 0, none⟩) n c) l) : ∃ cs, w.heap[g]? = some (.cells cs e (0, 0)) := by
  rcases h.2 with ⟨h', _⟩ | ⟨g', cap', cur, h', _, hg, _⟩
  · simp at h'
  · simp only [Value.slice.injEq, Option.some.injEq, Addr.mk.injEq, and_true] at h'
    obtain ⟨rfl, -, -⟩ := h'
    exact ⟨cur, hg⟩

/-! ### Puts as laws write them. -/
theorem RPt.one (w : World) (g : Nat) (hg : g = w.heap.size) (x : PutT) (h : TX w (slV x.2.2.1) x.2.2.2) (fr : Nat × Nat) :
    RPt (w.alloc (.cells #[.string x.1, .bool x.2.1, slV x.2.2.1] 47 fr)) (.slice (some ⟨g, 0, none⟩) 1 1) [x] := by
  subst hg
  have hb := newB w (.cells #[.string x.1, .bool x.2.1, slV x.2.2.1] 47 fr)
  have hn := heap_alloc_new w (.cells #[.string x.1, .bool x.2.1, slV x.2.2.1] 47 fr)
  refine ⟨.inr ⟨w.heap.size, 1, _, fr, rfl, hn, fun i hi => ?_⟩, fun y hy => ?_⟩
  · obtain rfl : i = 0 := by simpa using hi
    refine ⟨?_, ?_, ?_⟩ <;> rw [cell_of_row _ _ _ _ _ _ hn] <;> rfl
  · rw [List.mem_singleton.1 hy]
    exact h.below hb
theorem RPt.two (w : World) (g : Nat) (hg : g = w.heap.size) (x y : PutT) (h : TX w (slV x.2.2.1) x.2.2.2) (h' : TX w (slV y.2.2.1) y.2.2.2) (fr : Nat × Nat) :
    RPt (w.alloc (.cells #[.string x.1, .bool x.2.1, slV x.2.2.1, .string y.1, .bool y.2.1, slV y.2.2.1] 47 fr)) (.slice (some ⟨g, 0, none⟩) 2 2) [x, y] := by
  subst hg
  have hb := newB w (.cells #[.string x.1, .bool x.2.1, slV x.2.2.1, .string y.1, .bool y.2.1, slV y.2.2.1] 47 fr)
  have hn := heap_alloc_new w (.cells #[.string x.1, .bool x.2.1, slV x.2.2.1, .string y.1, .bool y.2.1, slV y.2.2.1] 47 fr)
  refine ⟨.inr ⟨w.heap.size, 2, _, fr, rfl, hn, fun i hi => ?_⟩, fun z hz => ?_⟩
  · rcases (show i = 0 ∨ i = 1 by have : i < 2 := hi; omega) with rfl | rfl
    · refine ⟨?_, ?_, ?_⟩ <;> rw [cell_of_row _ _ _ _ _ _ hn] <;> rfl
    · refine ⟨?_, ?_, ?_⟩ <;> rw [cell_of_row _ _ _ _ _ _ hn] <;> rfl
  · simp only [List.mem_cons, List.not_mem_nil, or_false] at hz
    rcases hz with rfl | rfl
    · exact h.below hb
    · exact h'.below hb

end Go.Proofs.YtnalokjnbccjnaaGreatDoor

namespace Go.Proofs.YtnalokjnbccjnaaGreatDoor
open Go.RowKit

abbrev nA : ByteArray := ⟨#[97]⟩
abbrev nB : ByteArray := ⟨#[98]⟩
abbrev nC : ByteArray := ⟨#[99]⟩
theorem begun_done (x y : Option Addr × Nat × Nat) : doneL [] [(nB, false, x, [120]), (nA, false, y, [121, 122])] = [(nA, [121, 122]), (nB, [120])] := by
  have h1 : ltN nB nA = false := by unfold ltN; rw [ByteArray.toList_eq, ByteArray.toList_eq]; decide
  show putGo nA [121, 122] false [(nB, [120])] = _
  unfold putGo
  rw [if_neg (by rw [h1]; decide), if_neg (by decide)]
  rfl
theorem begun_len (x y : Option Addr × Nat × Nat) : (doneL [] [(nB, false, x, [120]), (nA, false, y, [121, 122])]).length = 2 := by rw [begun_done]; rfl
theorem begun_a (x y : Option Addr × Nat × Nat) : lookF (doneL [] [(nB, false, x, [120]), (nA, false, y, [121, 122])]) nA = some [121, 122] := by rw [begun_done]; rfl
theorem begun_none (x y : Option Addr × Nat × Nat) : lookF (doneL [] [(nB, false, x, [120]), (nA, false, y, [121, 122])]) nC = none := by rw [begun_done]; rfl
theorem begun_names (x y : Option Addr × Nat × Nat) : ((doneL [] [(nB, false, x, [120]), (nA, false, y, [121, 122])]).map fun z => Value.string z.1) = [.string nA, .string nB] := by rw [begun_done]; rfl
theorem begun_secs (x y : Option Addr × Nat × Nat) : ∀ z ∈ doneL [] [(nB, false, x, [120]), (nA, false, y, [121, 122])], secs z.2.length ≤ 1 := by
  rw [begun_done]
  intro z hz
  simp only [List.mem_cons, List.not_mem_nil, or_false] at hz
  rcases hz with rfl | rfl <;> decide
theorem okp_begun (x y : Option Addr × Nat × Nat) : OkP [(nB, false, x, [120]), (nA, false, y, [121, 122])] := by
  intro z hz
  simp only [List.mem_cons, List.not_mem_nil, or_false] at hz
  rcases hz with rfl | rfl
  · exact ⟨(by decide : 1 ≤ nB.size), (by decide : nB.size ≤ 20), (by decide : ([120] : List UInt8).length ≤ 4000)⟩
  · exact ⟨(by decide : 1 ≤ nA.size), (by decide : nA.size ≤ 20), (by decide : ([121, 122] : List UInt8).length ≤ 4000)⟩
theorem str_yz : (str [121, 122]).toList = [121, 122] := by
  have : (str [121, 122]).toList = [121, 122] := by simp [str, ByteArray.toList_eq]
  exact this

set_option maxHeartbeats 4000000 in
set_option maxRecDepth 100000 in
theorem begun_c (w : World) (hT : Tab w) : Calls Tryz.prog 10 #[] w fun e w' => e = .returned (.bool true) ∧ Below w.heap.size w w' := by
  have C1 := Go.Lib.hid (snew_c 64 w)
  have HT := Go.Lib.hid hT; clear hT
  go_enter Tryz.func10, Tryz.ntmps10
  go_wp2_with fail
  refine C1.out.mono ?_
  rintro e w1 ⟨d, g, rfl, hd1, hb1⟩
  rw [show lenD 64 = 64 from rfl] at hd1
  have C2 := Go.Lib.hid (make_ok hd1 (HT.out.below hb1) (by omega) HT.out.low hb1.size)
  have HB1 := Go.Lib.hid hb1
  clear hd1 hb1 C1
  go_wp2_with fail
  refine C2.out.mono ?_
  rintro e w2 ⟨s, p, rfl, hw2, ht2, hb2, -⟩
  have HB2 := Go.Lib.hid (HB1.out.trans hb2)
  have HW2 := Go.Lib.hid (And.intro hw2 ht2)
  have kc1 := Go.Lib.run_convert_bytes_const (P := Tryz.prog) w2 45 5 #[Value.int IntKind.u8 120] 1 1 Tryz.underlying45 Tryz.underlying5
  have kc2 := Go.Lib.run_convert_bytes_const (P := Tryz.prog) (w2.alloc (.cells #[Value.int IntKind.u8 120] 5 (1, 2))) 45 5 #[Value.int IntKind.u8 121, Value.int IntKind.u8 122] 2 2 Tryz.underlying45 Tryz.underlying5
  rw [show (w2.alloc (.cells #[Value.int IntKind.u8 120] 5 (1, 2))).heap.size = w2.heap.size + 1 from by simp] at kc2
  clear hw2 ht2 hb2 C2
  go_wp2_with fail
  clear kc1 kc2
  obtain ⟨w3, hw3⟩ : ∃ w3, w3 = (w2.alloc (.cells #[.int .u8 120] 5 (1, 2))).alloc (.cells #[.int .u8 121, .int .u8 122] 5 (2, 3)) := ⟨_, rfl⟩
  have hbA := newB w2 (.cells #[.int .u8 120] 5 (1, 2))
  have hbB := newB (w2.alloc (.cells #[.int .u8 120] 5 (1, 2))) (.cells #[.int .u8 121, .int .u8 122] 5 (2, 3))
  have hr1 := (TX.lits w2 [120] #[.int .u8 120] 1 rfl rfl (by decide) (1, 2)).below hbB
  have hr2 := TX.lits (w2.alloc (.cells #[.int .u8 120] 5 (1, 2))) [121, 122] #[.int .u8 121, .int .u8 122] 2 rfl rfl (by decide) (2, 3)
  rw [show (w2.alloc (.cells #[Value.int IntKind.u8 120] 5 (1, 2))).heap.size = w2.heap.size + 1 from by simp] at hr2
  rw [← hw3] at hr1 hr2 hbB ⊢
  have hs3 : w2.heap.size + 1 + 1 = w3.heap.size := by rw [hw3]; simp
  have hrp := RPt.two w3 _ hs3 (nB, false, (some ⟨w2.heap.size, 0, none⟩, 1, 1), [120]) (nA, false, (some ⟨w2.heap.size + 1, 0, none⟩, 2, 2), [121, 122]) hr1 hr2 (0, 0)
  have hbC := below_to hbA (Nat.le_refl _) hbB
  have hbD := below_to hbC (Nat.le_refl _) (newB w3 (.cells #[.string nB, .bool false, slV (some ⟨w2.heap.size, 0, none⟩, 1, 1), .string nA, .bool false, slV (some ⟨w2.heap.size + 1, 0, none⟩, 2, 2)] 47))
  obtain ⟨hw2, ht2⟩ := HW2.out
  have C3 := apply_ok (hw2.below hbD) (ht2.below hbD) HT.out.low hrp (by simp) (okp_begun _ _) (by simp) (by rw [begun_len]; omega) (by omega) (by omega) 1 50 (by omega) (by omega) (fun x hx => absurd hx (by simp)) (by simp [secs]) (by omega) (by simp [secs]) (by simp)
  have C3 := Go.Lib.hid C3
  have HB3 := Go.Lib.hid (HB2.out.trans (hbD.mono HB2.out.size))
  clear hbA hbB hr1 hr2 hrp hbC hbD hw2 ht2 hs3 hw3 HW2
  refine C3.out.mono ?_
  rintro e w4 ⟨rfl, ⟨k', -, hw4⟩, ht4, hb4, -⟩
  have HB4 := Go.Lib.hid (HB3.out.trans hb4)
  have HT4 := Go.Lib.hid ht4
  have C4 := Go.Lib.hid (crash_ok hw4 (.slice none 0 0) [] (rv_none _))
  clear hw4 ht4 hb4 C3
  go_wp2_with fail
  refine C4.out.mono ?_
  rintro e w5 ⟨d5, g5, rfl, hd5, hb5⟩
  have HB5 := Go.Lib.hid (HB4.out.trans (hb5.mono HB4.out.size))
  have C5 := Go.Lib.hid (open_ok hd5 (HT4.out.below hb5) hb5.size)
  clear hd5 hb5 C4
  go_wp2_with fail
  refine C5.out.mono ?_
  rintro e w6 ⟨s6, p6, rfl, hw6, hb6, -⟩
  have HB6 := Go.Lib.hid (HB5.out.trans (hb6.mono HB5.out.size))
  have HW6 := Go.Lib.hid hw6
  have C6 := Go.Lib.hid (get_ok hw6 nA [121, 122] (begun_a _ _))
  clear hw6 hb6 C5
  go_wp2_with fail
  refine C6.out.mono ?_
  rintro e w7 ⟨vb, rfl, hob, hb7⟩
  have HB7 := Go.Lib.hid (HB6.out.trans (hb7.mono HB6.out.size))
  have HW7 := Go.Lib.hid (HW6.out.below hb7)
  have HOB := Go.Lib.hid hob
  have C7 := Go.Lib.hid (get_no HW7.out nC (begun_none _ _))
  clear hob hb7 C6 HW6
  go_wp2_with fail
  refine C7.out.mono ?_
  rintro e w8 ⟨rfl, hb8⟩
  have HB8 := Go.Lib.hid (HB7.out.trans (hb8.mono HB7.out.size))
  have HW8 := Go.Lib.hid (HW7.out.below hb8)
  have HOB8 := Go.Lib.hid (HOB.out.below hb8)
  have C8 := Go.Lib.hid (names_ok HW8.out)
  clear hb8 C7 HW7 HOB
  go_wp2_with fail
  refine C8.out.mono ?_
  rintro e w9 ⟨vn, rfl, hon, hb9⟩
  have HB9 := Go.Lib.hid (HB8.out.trans (hb9.mono HB8.out.size))
  have HW9 := Go.Lib.hid (HW8.out.below hb9)
  have HOB9 := Go.Lib.hid (HOB8.out.below hb9)
  rw [begun_names] at hon
  have HON := Go.Lib.hid hon
  have C9 := Go.Lib.hid (snew_c 63 w9)
  clear hon hb9 C8 HW8 HOB8
  go_wp2_with fail
  refine C9.out.mono ?_
  rintro e wa ⟨da, ga, rfl, hda, hba⟩
  have HBa := Go.Lib.hid (HB9.out.trans (hba.mono HB9.out.size))
  have hwa := HW9.out.below hba
  have hoba := HOB9.out.below hba
  have hona := HON.out.below hba
  have Ca := Go.Lib.hid (omake_short hda (by decide))
  have Cb := Go.Lib.hid (free_ok hwa)
  have HWa := Go.Lib.hid hwa
  obtain ⟨an, cn, rfl, -⟩ := hona.rv.form
  obtain ⟨bn, on, rfl, y0, -⟩ := hona.rv.at 0 (by simp)
  have hcv := run_string_RB wa 45 5 9 Tryz.underlying45 Tryz.underlying5 Tryz.underlying9 vb [121, 122] hoba.rb
  have hyz := str_yz
  replace y0 : wa.cell? ⟨bn, on, none⟩ = some (.string nA) := y0
  clear hba hwa hoba hona hda C9 HB9 HW9 HOB9 HON
  go_wp2_with fail
  refine Ca.out.mono ?_
  rintro e wa' ⟨rfl, rfl⟩
  clear Ca
  go_wp2_with fail
  refine Cb.out.mono ?_
  rintro e wb ⟨r, rfl, hbb, -, hr, -⟩
  have hr := hr 1 (begun_secs _ _)
  rw [begun_len] at hr
  have hr20 : (20 : Int) < r := by omega
  have HBb := Go.Lib.hid (HBa.out.trans (hbb.mono HBa.out.size))
  have Cc := Go.Lib.hid (down_no (HWa.out.below hbb))
  clear hbb hr Cb hcv
  go_wp2_with fail
  refine Cc.out.mono ?_
  rintro e wb' ⟨rfl, rfl⟩
  clear Cc
  go_wp2_with fail
  go_ret
  exact ⟨rfl, HBb.out⟩

end Go.Proofs.YtnalokjnbccjnaaGreatDoor

namespace Go.Proofs.YtnalokjnbccjnaaGreatDoor
open Go.RowKit

set_option maxRecDepth 100000 in
theorem short_c (v : Value) (l : List UInt8) (n : Nat) (w : World) (hv : RB w v l) (hn : n ≤ 1000) :
    Calls Tryz.prog 25 #[v, .int .i64 n] w fun e w' => (∃ v', e = .returned v' ∧ RB w v' (l.take n)) ∧ w = w' := by
  obtain ⟨a, cap, rfl, h1, h2, h3, h4⟩ := hv
  have hs := h2
  unfold maxLen at hs
  by_cases h : n < l.length
  · cases a with
    | none => have := h3 rfl; omega
    | some a =>
      have hr : RB w (.slice (some a) n cap) (l.take n) := by
        refine ⟨some a, cap, by rw [List.length_take, Nat.min_eq_left (by omega)], by rw [List.length_take]; omega, h2, (fun h => by cases h), fun hl => ?_⟩
        obtain ⟨b, o, ha, hc⟩ := h4 (by intro e; subst e; simp at h)
        exact ⟨b, o, ha, fun i hi => by
          have := hc i (by rw [List.length_take] at hi; omega)
          simpa using this⟩
      have Hr := Go.Lib.hid hr; clear hr h3 h4
      go_enter Tryz.func25, Tryz.ntmps25
      go_wp2
      go_ret
      exact ⟨⟨_, rfl, Hr.out⟩, rfl⟩
  · have hr : RB w (.slice a l.length cap) (l.take n) := by
      rw [List.take_of_length_le (by omega)]
      exact ⟨a, cap, rfl, h1, h2, h3, h4⟩
    have Hr := Go.Lib.hid hr; clear hr h3 h4
    go_enter Tryz.func25, Tryz.ntmps25
    go_wp2
    go_ret
    exact ⟨⟨_, rfl, Hr.out⟩, rfl⟩

theorem rb_first {w : World} {a : Option Addr} {cap : Nat} {l : List UInt8} (h : RB w (.slice a l.length cap) l) (n : Nat) (hn : n ≤ l.length) : RB w (.slice a n cap) (l.take n) := by
  obtain ⟨a', cap', hv, h1, h2, h3, h4⟩ := h
  cases hv
  refine ⟨a, cap, by rw [List.length_take, Nat.min_eq_left hn], by rw [List.length_take]; omega, h2, h3, fun hl => ?_⟩
  have hne : l ≠ [] := by rintro rfl; simp at hl
  obtain ⟨b, o, ha, hc⟩ := h4 hne
  exact ⟨b, o, ha, fun i hi => by
    have := hc i (by rw [List.length_take] at hi; omega)
    simpa using this⟩
set_option maxRecDepth 100000 in
/-- .. wherever its argument reads so. -/
theorem short_w (v : Value) (l : List UInt8) (n : Nat) (w : World) (hv : RB w v l) (hn : n ≤ 1000) :
    Calls Tryz.prog 25 #[v, .int .i64 n] w fun e w' => (∃ v', e = .returned v' ∧ ∀ W, RB W v l → RB W v' (l.take n)) ∧ w = w' := by
  obtain ⟨a, cap, rfl, h1, h2, h3, h4⟩ := hv
  have hs := h2
  unfold maxLen at hs
  by_cases h : n < l.length
  · cases a with
    | none => have := h3 rfl; omega
    | some a =>
      have Hr := Go.Lib.hid (fun W (hW : RB W (.slice (some a) l.length cap) l) => rb_first hW n (by omega)); clear h3 h4
      go_enter Tryz.func25, Tryz.ntmps25
      go_wp2
      go_ret
      exact ⟨⟨_, rfl, Hr.out⟩, rfl⟩
  · have Hr := Go.Lib.hid (fun W (hW : RB W (.slice a l.length cap) l) => show RB W (.slice a l.length cap) (l.take n) from by rw [List.take_of_length_le (by omega)]; exact hW); clear h3 h4
    go_enter Tryz.func25, Tryz.ntmps25
    go_wp2
    go_ret
    exact ⟨⟨_, rfl, Hr.out⟩, rfl⟩

end Go.Proofs.YtnalokjnbccjnaaGreatDoor

namespace Go.Proofs.YtnalokjnbccjnaaGreatDoor
open Go.RowKit

set_option maxRecDepth 100000 in
/-- 'Short(b, n)', the value said. -/
theorem short_v (a : Option Addr) (len cap : Nat) (l : List UInt8) (n : Nat) (w : World) (hv : RB w (.slice a len cap) l) (hn : n ≤ 1000) :
    Calls Tryz.prog 25 #[.slice a len cap, .int .i64 n] w fun e w' => e = .returned (.slice a (min n len) cap) ∧ w = w' := by
  obtain ⟨h1, h2, h3⟩ := hv.len
  subst h1
  have hs := h3
  unfold maxLen at hs
  obtain ⟨a', cap', hv', -, -, hn0, -⟩ := hv
  simp only [Value.slice.injEq] at hv'
  obtain ⟨rfl, -, rfl⟩ := hv'
  by_cases h : n < l.length
  · cases a with
    | none => have := hn0 rfl; omega
    | some a =>
      have hr := Go.Lib.hid (Nat.min_eq_left (Nat.le_of_lt h))
      clear hn0 h3
      go_enter Tryz.func25, Tryz.ntmps25
      go_wp2
      go_ret
      exact ⟨ret_of (by rw [hr.out]; rfl), rfl⟩
  · have hr := Go.Lib.hid (Nat.min_eq_right (Nat.le_of_not_lt h))
    clear hn0 h3
    go_enter Tryz.func25, Tryz.ntmps25
    go_wp2
    go_ret
    exact ⟨ret_of (by rw [hr.out]; rfl), rfl⟩

end Go.Proofs.YtnalokjnbccjnaaGreatDoor

namespace Go.Proofs.YtnalokjnbccjnaaGreatDoor
open Go.RowKit

/-- An iterator of its own, of which nothing lies below. -/
theorem below_iter {w wr : World} {k : Nat} (h : Below w.heap.size w wr) (hk : w.heap.size ≤ k) (s : ByteArray) (pos : Nat) : Below w.heap.size w (wr.iterAt k s pos) :=
  h.trans ⟨rfl, rfl, rfl, by simp [World.iterAt], fun j hj => Go.Lib.iterAt_other wr k j s pos (by omega)⟩

/-- What 'next' hands over at the n-th rune. -/
theorem next_some (s : ByteArray) (n : Nat) (h : n < (toks (bl s)).length) : posOf (bl s) n < s.size ∧ (Utf8.decode s (posOf (bl s) n)).1 = dr ((bl s).drop (posOf (bl s) n)) ∧ posOf (bl s) n + (Utf8.decode s (posOf (bl s) n)).2 = posOf (bl s) (n + 1) ∧ (toks (bl s))[n].1 = dr ((bl s).drop (posOf (bl s) n)) := by
  have hne := drop_ne (bl s) n h
  have hg := get_toks (bl s) n h
  have hs := posOf_succ (bl s) n h
  rw [dec_shift]
  refine ⟨?_, rfl, hs.symm, by rw [hg]⟩
  rw [bl_size]
  exact Nat.lt_of_not_le fun hh => hne (List.drop_eq_nil_of_le hh)

theorem posOf_lt {l : List UInt8} {n : Nat} : (n < (toks l).length) ↔ posOf l n < l.length := by
  constructor
  · intro h
    have := drop_ne l n h
    exact Nat.lt_of_not_le fun hh => this (List.drop_eq_nil_of_le hh)
  · intro h
    rcases Nat.lt_or_ge n (toks l).length with h' | h'
    · exact h'
    · rw [posOf_all l n h'] at h
      omega

/-- An iterator stands while another block grows. -/
theorem iter_kept {w w' : World} {k : Nat} {s : ByteArray} {pos : Nat} {v : Value} {xs : List Value} {e : TypeId} {B : Nat} (hit : w.heap[k]? = some (.stringIter s pos)) (hown : OwnV e w B v xs) (hg : w.grownBy w' v.ownBlock) : w'.heap[k]? = some (.stringIter s pos) := by
  have hlt := (Array.getElem?_eq_some_iff.1 hit).1
  refine (hg.block k hlt ?_).trans hit
  rcases hown.2 with ⟨rfl, -⟩ | ⟨g, cap, cur, rfl, hB, h2, h3⟩
  · simp [Value.ownBlock]
  · intro e'
    simp only [Value.ownBlock, Option.some.injEq] at e'
    subst e'
    rw [h2] at hit
    cases hit

theorem iter_alloc {w : World} {k : Nat} {s : ByteArray} {pos : Nat} (hit : w.heap[k]? = some (.stringIter s pos)) (o : Obj) : (w.alloc o).heap[k]? = some (.stringIter s pos) := by
  have hlt := (Array.getElem?_eq_some_iff.1 hit).1
  show (w.heap.push o)[k]? = _
  rw [Array.getElem?_push_lt hlt]
  rw [Array.getElem?_eq_getElem hlt] at hit
  exact hit

theorem posOf_lt_succ (l : List UInt8) (n : Nat) (h : n < (toks l).length) : posOf l n < posOf l (n + 1) := by
  have := dw_le _ (drop_ne l n h)
  rw [posOf_succ l n h]
  omega

theorem zi_more (k : IntKind) (ts : List (Nat × List UInt8)) (n : Nat) (h : n < ts.length) : zi k ((runesOf ts).take n) ++ [.int k (ts[n].1 : Int)] = zi k ((runesOf ts).take (n + 1)) := by
  have h' : n < (runesOf ts).length := by simp [runesOf]; exact h
  rw [List.take_succ_eq_append_getElem h', zi_append]
  simp [zi, runesOf]

theorem runesOf_length (ts : List (Nat × List UInt8)) : (runesOf ts).length = ts.length := by simp [runesOf]

theorem drop_bl (s : ByteArray) (p : Nat) : bl (s.extract p s.size) = (bl s).drop p := by
  unfold bl
  rw [Go.Lib.extract_data]
  exact List.take_of_length_le (by rw [List.length_drop, ← Go.Lib.size_eq]; omega)

theorem take_bl (s : ByteArray) (p : Nat) : s.extract 0 p = str ((bl s).take p) := by
  apply ByteArray.ext; apply Array.toList_inj.1
  rw [Go.Lib.extract_data]
  simp [str, bl]

theorem well_take (l : List UInt8) (n : Nat) (h : n < (toks l).length) : wellB ((toks l).take (n + 1)) = (wellB ((toks l).take n) && okB (l.drop (posOf l n))) := by
  rw [List.take_succ_eq_append_getElem h, get_toks l n h, ← ok_head (drop_ne l n h)]
  unfold wellB
  rw [List.all_append]
  simp only [List.all_cons, List.all_nil, Bool.and_true]

theorem well_false (l : List UInt8) (n : Nat) (h : n < (toks l).length) (ho : okB (l.drop (posOf l n)) = false) : wellB (toks l) = false := by
  cases hw : wellB (toks l) with
  | false => rfl
  | true =>
    have := well_take l n h
    rw [ho, Bool.and_false] at this
    have h2 : wellB ((toks l).take (n + 1)) = true := by
      unfold wellB at hw ⊢
      rw [List.all_eq_true] at hw ⊢
      exact fun t ht => hw t (List.mem_of_mem_take ht)
    rw [this] at h2
    cases h2

theorem one_one (k : IntKind) (n : Int) : ∀ u ∈ [Value.int k n], u.oneCell' = true := by
  intro u hu
  obtain rfl := List.mem_singleton.1 hu
  rfl

/-- Two slices of two types lie apart. -/
theorem own_apart {e1 e2 : TypeId} (he : e1 ≠ e2) {w : World} {B1 B2 : Nat} {v1 v2 : Value} {x1 x2 : List Value} (h1 : OwnV e1 w B1 v1 x1) (h2 : OwnV e2 w B2 v2 x2) : v2.ownBlock = none ∨ v2.ownBlock ≠ v1.ownBlock := by
  rcases h2.2 with ⟨rfl, -⟩ | ⟨g2, cap2, cur2, rfl, hB2, hg2, -⟩
  · exact .inl rfl
  · refine .inr ?_
    rcases h1.2 with ⟨rfl, -⟩ | ⟨g1, cap1, cur1, rfl, hB1, hg1, -⟩
    · simp [Value.ownBlock]
    · simp only [Value.ownBlock, ne_eq, Option.some.injEq]
      rintro rfl
      rw [hg1] at hg2
      simp only [Option.some.injEq, Obj.cells.injEq] at hg2
      exact he hg2.2.1

end Go.Proofs.YtnalokjnbccjnaaGreatDoor
