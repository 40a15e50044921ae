/-
  The reference's InOrder.
-/
import Derived.Test.YtibbligidncocaaM16
import Derived.Test.YtibbligidncocaaM41
import Derived.Test.YtibbligidncocaaM37
import Derived.Test.YtibbligidncocaaM44
import Derived.Test.YtibbligidncocaaM38
import Derived.Test.YtibbligidncocaaM17
import Derived.LoopTactic
import Derived.Deep.DeepMust
import Derived.Deep.DeepCutAuto
namespace Go.Proofs.Ytibbligidncocaa
open Go.RowKit

/-- Sources of records. -/
def RSS (w : World) (v : Value) (ss : List (Value × List RecT)) : Prop := RV w v (ss.map (·.1)) ∧ ∀ p ∈ ss, RS w p.1 p.2
theorem RSS.below {w w' : World} {v : Value} {ss : List (Value × List RecT)} (h : RSS w v ss) (hb : Below w.heap.size w w') : RSS w' v ss := ⟨h.1.below hb, fun p hp => (h.2 p hp).below hb⟩
abbrev kf (x : RecT) : ByteArray := x.1
theorem infoRS : (Try.prog.info? 22).map (fun i => (i.zero, i.size, i.bytes)) = some (some (.slice none 0 0), 1, 24) := by kernel_rfl
theorem idxRS (b o n cap j : Nat) (h : j < n) (W : World) : (Instr.indexAt 62 (.slice (some ⟨b, o, none⟩) n cap) (.int .i64 (j : Int))).run Try.prog W = .ok (.pointer (some ⟨b, o + j, none⟩)) W := by
  obtain ⟨i, hi, -, hsize, -⟩ := info_parts infoRS
  have he : Try.prog.elem 62 = 22 := by kernel_rfl
  have hs : (sizeOf 22).run Try.prog W = .ok 1 W := by simp [sizeOf, typeInfo, hi, hsize]
  have hadd : (⟨b, o, none⟩ : Addr).add j = ⟨b, o + j, none⟩ := by unfold Addr.add; split <;> simp_all
  rw [run_indexAt_slice W _ _ _ _ _ _ (by rw [he]; exact Try.underlying62), if_pos ⟨by omega, by omega⟩, he, hs]
  simp [Result.andThen, hadd]
theorem find_any (m : List RecT) (key : ByteArray) : (findK keyR m key.toList).isSome = m.any fun y => decide (kf y = key) := by
  unfold findK
  rw [Bool.eq_iff_iff, List.find?_isSome, List.any_eq_true]
  constructor
  · rintro ⟨x, hx, e⟩
    exact ⟨x, hx, decide_eq_true (toList_inj (of_decide_eq_true e))⟩
  · rintro ⟨x, hx, e⟩
    have := of_decide_eq_true e
    subst this
    exact ⟨x, hx, by simp [keyR]⟩
theorem own_form5 {w : World} {B : Nat} {v : Value} {L : List RecT} (h : OwnRec w B v L) (hl : L ≠ []) : ∃ g cap, v = .slice (some ⟨g, 0, none⟩) L.length cap ∧ B ≤ g ∧ g < w.heap.size ∧ L.length ≤ cap ∧ cap ≤ maxLen := Lay.O.form (K := K5) h hl
theorem K5.one1 (w : World) (x : RecT) : K5.R (w.alloc (.cells #[.string x.1, .bool x.2.1, .int .i64 x.2.2.1, .int .i64 x.2.2.2.1, .string x.2.2.2.2] 39)) (.slice (some ⟨w.heap.size, 0, none⟩) 1 1) [x] := Lay.R.one w K5_ok x 39 (0, 0)

/-- What InOrder answers: of each key the first record, in order. -/
def OrderTo (v : Value) (L : List RecT) (w w' : World) : Prop := ∃ S : List RecT, OwnRec w' w.heap.size v S ∧ SortK kf S ∧ (∀ x, x ∈ S ↔ x ∈ firstsK kf L) ∧ S.length ≤ L.length
def VIA (_b _os _n _cap _i_ _g _og _m _c8 t _q : Nat) (_kx _ky : ByteArray) (_z : Bool) : Nat → World → Value → Prop
  | 59, _, v => v = .int .i64 (t : Int)
  | 60, _, v => v = .bool false
  | 61, _, v => v = .bool false
  | 62, _, v => v = undef
  | 63, _, v => v = undef
  | 64, _, v => v = undef
  | 65, _, v => v = undef
  | 66, _, v => v = undef
  | 67, _, v => v = undef
  | 68, _, v => v = undef
  | 69, _, v => v = undef
  | 70, _, v => v = undef
  | 71, _, v => v = undef
  | 72, _, v => v = undef
  | 73, _, v => v = undef
  | 74, _, v => v = .bool false
  | _, _, _ => True

theorem VIA_below (b os n cap i_ g og m c8 t q : Nat) (kx ky : ByteArray) (z : Bool) : ∀ (i : Nat) (w w' : World) (v : Value), VIA b os n cap i_ g og m c8 t q kx ky z i w v → Below w.heap.size w w' → VIA b os n cap i_ g og m c8 t q kx ky z i w' v := by
  intro i w w' v h hb
  unfold VIA at h ⊢
  split at h <;> first | exact h | trivial | exact RB.below h hb | exact Own.below h hb | exact OwnV.below h hb | exact OwnRec.below h hb | exact Lay.R.below h hb

def VIB (b os n cap i_ g og m c8 t q : Nat) (kx ky : ByteArray) (z : Bool) : Nat → World → Value → Prop
  | 59, _, v => v = .int .i64 (t : Int)
  | 60, _, v => v = .bool true
  | 61, _, v => v = .bool true
  | 62, _, v => v = .slice (some ⟨b, os, none⟩) n cap
  | 63, _, v => v = .int .i64 (i_ : Int)
  | 64, _, v => v = .pointer (some ⟨b, os + i_ * 5, none⟩)
  | 65, _, v => v = .pointer (some ⟨b, os + i_ * 5, none⟩)
  | 66, _, v => v = .string kx
  | 67, _, v => v = .slice (some ⟨g, og, none⟩) m c8
  | 68, _, v => v = .int .i64 (t : Int)
  | 69, _, v => v = .int .i64 (q : Int)
  | 70, _, v => v = .pointer (some ⟨g, og + q * 5, none⟩)
  | 71, _, v => v = .pointer (some ⟨g, og + q * 5, none⟩)
  | 72, _, v => v = .string ky
  | 73, _, v => v = .bool z
  | 74, _, v => v = .bool z
  | _, _, _ => True

theorem VIB_below (b os n cap i_ g og m c8 t q : Nat) (kx ky : ByteArray) (z : Bool) : ∀ (i : Nat) (w w' : World) (v : Value), VIB b os n cap i_ g og m c8 t q kx ky z i w v → Below w.heap.size w w' → VIB b os n cap i_ g og m c8 t q kx ky z i w' v := by
  intro i w w' v h hb
  unfold VIB at h ⊢
  split at h <;> first | exact h | trivial | exact RB.below h hb | exact Own.below h hb | exact OwnV.below h hb | exact OwnRec.below h hb | exact Lay.R.below h hb

def VI19 (g3 n c3 t : Nat) (S1 S2 : Value) : Nat → World → Value → Prop
  | 81, _, v => v = .slice (some ⟨g3, 0, none⟩) n c3
  | 82, _, v => v = .int .i64 (t : Int)
  | 83, _, v => v = .int .i64 ((t : Int) + 1)
  | 84, _, v => v = S1
  | 85, _, v => v = .slice (some ⟨g3, 0, none⟩) n c3
  | 86, _, v => v = .int .i64 (t : Int)
  | 87, _, v => v = S2
  | _, _, _ => True

theorem VI19_below (g3 n c3 t : Nat) (S1 S2 : Value) : ∀ (i : Nat) (w w' : World) (v : Value), VI19 g3 n c3 t S1 S2 i w v → Below w.heap.size w w' → VI19 g3 n c3 t S1 S2 i w' v := by
  intro i w w' v h hb
  unfold VI19 at h ⊢
  split at h <;> first | exact h | trivial | exact RB.below h hb | exact Own.below h hb | exact OwnV.below h hb | exact OwnRec.below h hb | exact Lay.R.below h hb

set_option maxHeartbeats 2000000 in
set_option maxRecDepth 100000 in
theorem rinorder_c (v : Value) (ss : List (Value × List RecT)) (w : World) (h : RSS w v ss) (hs : ∀ p ∈ ss, SmallK p.2) (hl : (ss.flatMap (·.2)).length ≤ 10000) :
    Calls Try.prog 32 #[v] w fun e w' => ∃ v', e = .returned v' ∧ OrderTo v' (ss.flatMap (·.2)) w w' ∧ Below w.heap.size w w' := by
  obtain ⟨ad, cap, rfl, hm⟩ := h.1.form
  rw [List.length_map] at hm ⊢
  have h1 : RSS w (.slice ad ss.length cap) ss := by
    have h2 := h
    rw [List.length_map] at h2
    exact h2
  have H := Go.Lib.hid h1
  have HS := Go.Lib.hid hs
  have HLL := Go.Lib.hid hl
  clear h h1 hs hl
  go_enter Try.func32, Try.ntmps32
  go_wp2_with fail
  go_loopw [3, 4] (fun ov s' wr => ∃ (j : Nat) (u : Value), u = ov ∧ s' = .int .i64 (j : Int) ∧ j ≤ ss.length ∧ OwnRec wr w.heap.size u (firstsK kf ((ss.take j).flatMap (·.2))) ∧ Below w.heap.size w wr) (fun _ s' _ => ss.length - (intOf s').toNat)
  case atStart => exact ⟨0, _, rfl, rfl, by omega, OwnRec.nil _ _, Below.refl _ _⟩
  case round =>
    obtain ⟨j, u, rfl, rfl, hj, hO, hb⟩ := hrel
    by_cases hlt : j < ss.length
    · have hpre : Hid (∀ i, ((ss.take j).flatMap (·.2) ++ (ss[j].2).take i).length ≤ 10000) := Go.Lib.hid fun i => by
        have h1 := HLL.out
        rw [← List.take_append_drop j ss, List.drop_eq_getElem_cons hlt, List.flatMap_append, List.flatMap_cons, List.length_append, List.length_append] at h1
        rw [List.length_append, List.length_take]
        omega
      have hsn : (ss.take (j + 1)).flatMap (·.2) = (ss.take j).flatMap (·.2) ++ ss[j].2 := by
        rw [List.take_succ_eq_append_getElem hlt, List.flatMap_append]
        simp
      obtain ⟨bs, os, e, c0, hbs⟩ := H.out.1.at j (by rw [List.length_map]; exact hlt)
      subst e
      rw [List.getElem_map] at c0
      have hsl : ss[j].2.length ≤ 10000 := by
        have := hpre.out ss[j].2.length
        rw [List.take_length, List.length_append] at this
        omega
      have hrs := H.out.2 ss[j] (List.getElem_mem hlt)
      have hsm := HS.out ss[j] (List.getElem_mem hlt)
      generalize ss[j] = p at *
      obtain ⟨sv, src⟩ := p
      simp only [] at c0 hrs hsm hsn hsl
      obtain ⟨a2, c2, rfl, -⟩ := hrs.form
      have HRS := Go.Lib.hid hrs
      have HSM := Go.Lib.hid hsm
      have C0 := Go.Lib.hid c0
      have IX := Go.Lib.hid (idxRS bs os ss.length cap j hlt)
      have HSN := Go.Lib.hid hsn
      generalize (ss.take j).flatMap (·.2) = L at *
      have HO0 := Go.Lib.hid hO
      clear hrs hsm c0 hsn hO
      go_wp2_with fail
      go_loopw [3, 5] (fun ov i' w2 => ∃ (i : Nat) (u2 : Value), u2 = ov ∧ i' = .int .i64 (i : Int) ∧ i ≤ src.length ∧ OwnRec w2 w.heap.size u2 (firstsK kf (L ++ src.take i)) ∧ Below w.heap.size w w2) (fun _ i' _ => src.length - (intOf i').toNat)
      case atStart => exact ⟨0, u, rfl, rfl, by omega, by simpa using HO0.out, hb⟩
      case round =>
        clear HO0 hb
        obtain ⟨i, u2, rfl, rfl, hi, hO, hb2⟩ := hrel
        have d0 := (hb2.cell (p := ⟨bs, os + j, none⟩) hbs).trans C0.out
        have ix := IX.out
        by_cases hlt2 : i < src.length
        · have hst := firstsK_snoc kf (L ++ src.take i) src[i]
          rw [List.append_assoc, ← List.take_succ_eq_append_getElem hlt2] at hst
          unfold firstStep at hst
          have hflen := (firstsK_facts kf (L ++ src.take i)).2.2.2
          have hpl := hpre.out i
          obtain ⟨b, o, rfl, -, hbl, c0, c1, c2', c3, c4⟩ := HRS.out.at i hlt2
          have e0 := (hb2.cell (p := ⟨b, o + i * 5, none⟩) hbl).trans c0
          have e1 := (hb2.cell (p := ⟨b, o + i * 5 + 1, none⟩) hbl).trans c1
          have e2 := (hb2.cell (p := ⟨b, o + i * 5 + 2, none⟩) hbl).trans c2'
          have e3 := (hb2.cell (p := ⟨b, o + i * 5 + 3, none⟩) hbl).trans c3
          have e4 := (hb2.cell (p := ⟨b, o + i * 5 + 4, none⟩) hbl).trans c4
          have i5 := run_idx5 b o src.length c2 i hlt2
          generalize src[i] = x at *
          obtain ⟨kx, gx, ax, nx, sx⟩ := x
          simp only [] at e0 e1 e2 e3 e4
          rw [show kf (kx, gx, ax, nx, sx) = kx from rfl] at hst
          have hfa := find_any (firstsK kf (L ++ src.take i)) kx
          rw [← hfa] at hst
          generalize hmm : firstsK kf (L ++ src.take i) = m at *
          have hO3 := hO
          obtain ⟨au, nu, cu, rfl⟩ : ∃ a n c, u2 = .slice a n c := by
            obtain ⟨a, cap, rfl, -⟩ := hO.rs.form
            exact ⟨_, _, _, rfl⟩
          have CF := rfind_c _ m kx wr hO.rs
          have HST := Go.Lib.hid hst
          have HO := Go.Lib.hid hO
          have hm6 : Hid (m.length + [((kx, gx, ax, nx, sx) : RecT)].length ≤ 1000000) := Go.Lib.hid (by simp only [List.length_cons, List.length_nil]; omega)
          clear hO hO3 hst hfa c0 c1 c2' c3 c4 hmm hflen hpl
          cases hF : findK keyR m kx.toList with
          | some y =>
            rw [hF] at CF HST
            rw [outR_some] at CF
            simp only [Option.isSome_some, if_true] at HST
            have CF := Go.Lib.hid CF
            clear hF
            go_wp2_with fail
            refine CF.out.mono ?_
            rintro e w3 ⟨rfl, hb3⟩
            unfold recOf recV
            obtain ⟨ky, gy, ay, ny, sy⟩ := y
            simp only []
            have HB3 := Go.Lib.hid (hb2.trans ((hb3.alloc hb3.size (.cells #[.string ky, .bool gy, .int .i64 ay, .int .i64 ny, .string sy] 39)).mono hb2.size))
            have HO3 : Hid (OwnRec (w3.alloc (.cells #[.string ky, .bool gy, .int .i64 ay, .int .i64 ny, .string sy] 39)) w.heap.size (.slice au nu cu) (firstsK kf (L ++ src.take (i + 1)))) := Go.Lib.hid (by rw [HST.out]; exact HO.out.below (hb3.alloc hb3.size _))
            clear hb3 hb2 HO HST e0 e1 e2 e3 e4 d0 ix i5
            go_wp2_with fail
            go_roundw
            case rel => exact ⟨i + 1, _, rfl, by go_num, by omega, HO3.out, HB3.out⟩
            case measure => simp only [intOf]; omega
          | none =>
            rw [hF] at CF HST
            rw [outR_none] at CF
            simp only [Option.isSome_none, Bool.false_eq_true, if_false] at HST
            have CF := Go.Lib.hid CF
            clear hF
            go_wp2_with fail
            refine CF.out.mono ?_
            rintro e w3 ⟨rfl, hb3⟩
            go_upto_region 10 with (fail)
            have hw : Below wr.heap.size wr (w3.alloc (.cells #[.string ⟨#[]⟩, .bool false, .int .i64 0, .int .i64 0, .string ⟨#[]⟩] 39)) := hb3.alloc hb3.size _
            generalize w3.alloc (.cells #[.string ⟨#[]⟩, .bool false, .int .i64 0, .int .i64 0, .string ⟨#[]⟩] 39) = W at *
            have hbs2 : bs < wr.heap.size := Nat.lt_of_lt_of_le hbs hb2.size
            have hbl2 : b < wr.heap.size := Nat.lt_of_lt_of_le hbl hb2.size
            have d0 := (hw.cell (p := ⟨bs, os + j, none⟩) hbs2).trans d0
            have e0 := (hw.cell (p := ⟨b, o + i * 5, none⟩) hbl2).trans e0
            have e1 := (hw.cell (p := ⟨b, o + i * 5 + 1, none⟩) hbl2).trans e1
            have e2 := (hw.cell (p := ⟨b, o + i * 5 + 2, none⟩) hbl2).trans e2
            have e3 := (hw.cell (p := ⟨b, o + i * 5 + 3, none⟩) hbl2).trans e3
            have e4 := (hw.cell (p := ⟨b, o + i * 5 + 4, none⟩) hbl2).trans e4
            have hbW := hb2.trans (hw.mono hb2.size)
            have hone := Go.Lib.hid (RS.one W (kx, gx, ax, nx, sx))
            have hOa := Go.Lib.hid ((HO.out.below hw).below (below_one W (.cells #[.string kx, .bool gx, .int .i64 ax, .int .i64 nx, .string sx] 39)))
            have hbA := Go.Lib.hid (hbW.alloc hbW.size (.cells #[.string kx, .bool gx, .int .i64 ax, .int .i64 nx, .string sx] 39))
            have hsz := hbA.out.size
            clear hb2 hb3 hw HO hbW CF
            go_wp2_with (first
              | (with_reducible show wpList _ _ _ (⟨some 50, _, _, _, _, _⟩ :: _) _ _; go_must (refine wpList_append_recs rfl (.tmp 41) (.tmp 49) rfl w.heap.size (.slice au nu cu) (.slice (some ⟨W.heap.size, 0, none⟩) 1 1) m [(kx, gx, ax, nx, sx)] rfl rfl hOa.out hone.out hm6.out hsz ?_); go_must (intro v4 w4 ho4 hg4; have HB4 := Go.Lib.hid (hbA.out.grown hg4 hsz hOa.out.row); have HO4 := Go.Lib.hid ho4; clear hg4 ho4 hOa hone hbA))
              | fail)
            go_roundw
            case rel => exact ⟨i + 1, _, rfl, by go_num, by omega, by rw [HST.out]; exact HO4.out, HB4.out⟩
            case measure => simp only [intOf]; omega
        · obtain rfl : i = src.length := by omega
          rw [List.take_length] at hO
          have HO : Hid (OwnRec wr w.heap.size u2 (firstsK kf ((ss.take (j + 1)).flatMap (·.2)))) := Go.Lib.hid (by rw [HSN.out]; exact hO)
          clear hO
          go_wp2_with fail
          go_roundw
          case rel => exact ⟨j + 1, _, rfl, by go_num, by omega, HO.out, hb2⟩
          case measure => simp only [intOf]; omega
    · obtain rfl : j = ss.length := by omega
      rw [List.take_length] at hO
      obtain ⟨F, hF⟩ : ∃ F, F = firstsK kf (ss.flatMap (·.2)) := ⟨_, rfl⟩
      rw [← hF] at hO
      obtain ⟨hf1, hf2, -, hf4⟩ := firstsK_facts kf (ss.flatMap (·.2))
      rw [← hF] at hf1 hf2 hf4
      have hFs : Hid (∀ x ∈ F, x.1.size ≤ 1000000) := Go.Lib.hid fun x hx => by
        obtain ⟨p, hp, hx⟩ := List.mem_flatMap.1 (hf2 x hx)
        exact HS.out p hp x hx
      have hFl : F.length ≤ 10000 := by have := HLL.out; omega
      have HF1 := Go.Lib.hid hf1
      have HF := Go.Lib.hid hF
      have hRS := hO.rs
      obtain ⟨au, cu, rfl, -⟩ := hRS.form
      have HR := Go.Lib.hid hRS
      have HB := Go.Lib.hid hb
      obtain ⟨wA, hwA⟩ : ∃ W, W = wr := ⟨_, rfl⟩
      subst hwA
      clear hf1 hf2 hf4 hF hRS hO hb HLL HS H hj hlt
      go_wp2_with fail
      go_loopw [8, 9] (fun lv i' w2 => ∃ (i : Nat) (u8 : Value) (S : List RecT), u8 = lv ∧ i' = .int .i64 (i : Int) ∧ i ≤ F.length ∧ OwnRec w2 wA.heap.size u8 S ∧ S.length = i ∧ Hid (SortK kf S) ∧ Hid (∀ x, x ∈ S ↔ x ∈ F.take i) ∧ Below wA.heap.size wA w2) (fun _ i' _ => F.length - (intOf i').toNat)
      case atStart => exact ⟨0, _, [], rfl, rfl, by omega, OwnRec.nil _ _, rfl, Go.Lib.hid List.Pairwise.nil, Go.Lib.hid (by simp), Below.refl _ _⟩
      case round =>
        obtain ⟨i_, u8, S, rfl, rfl, hi, hO, hSl, HP, HM, hb⟩ := hrel
        by_cases hlt : i_ < F.length
        · obtain ⟨b, os, rfl, -, hbl, c0, c1, c2, c3, c4⟩ := HR.out.at i_ hlt
          have I5 := Go.Lib.hid (run_idx5 b os F.length cu i_ hlt)
          have hnew : Hid (∀ y ∈ S, kf y ≠ kf F[i_]) := Go.Lib.hid fun y hy => by
            obtain ⟨q, hq, rfl⟩ := List.mem_take_iff_getElem.1 ((HM.out y).1 hy)
            exact List.pairwise_iff_getElem.1 HF1.out q i_ (by omega) hlt (by omega)
          have hmem : Hid (∀ y, (y = F[i_] ∨ y ∈ S) ↔ y ∈ F.take (i_ + 1)) := Go.Lib.hid fun y => by
            rw [List.take_succ_eq_append_getElem hlt, List.mem_append, List.mem_singleton, HM.out y]
            exact Or.comm
          have hxs := hFs.out F[i_] (List.getElem_mem hlt)
          have hS6 : S.length ≤ 10000 := by omega
          have HSl := Go.Lib.hid hSl
          clear hSl
          generalize F[i_] = x at *
          obtain ⟨kx, gx, ax, nx, sx⟩ := x
          simp only [] at c0 c1 c2 c3 c4 hxs
          have C0 := Go.Lib.hid c0
          have C1 := Go.Lib.hid c1
          have C2 := Go.Lib.hid c2
          have C3 := Go.Lib.hid c3
          have C4 := Go.Lib.hid c4
          obtain ⟨a8, c8, rfl, -⟩ := hO.rs.form
          have HO := Go.Lib.hid hO
          obtain ⟨wB, hwB⟩ : ∃ W, W = wr := ⟨_, rfl⟩
          subst hwB
          have HbB := Go.Lib.hid hb
          clear c0 c1 c2 c3 c4 hO hb
          go_wp2_with fail
          go_loopw [10] (fun t' w2 => ∃ t : Nat, t' = .int .i64 (t : Int) ∧ t ≤ S.length ∧ Hid (∀ j (h : j < S.length), t ≤ j → lessK kx (kf S[j]) = true) ∧ Below wB.heap.size wB w2) (fun t' _ => (intOf t').toNat)
          case atStart => exact ⟨S.length, rfl, Nat.le_refl _, Go.Lib.hid fun j h1 h2 => by omega, Below.refl _ _⟩
          case round =>
            obtain ⟨t, rfl, hts, HA, hbt⟩ := hrel
            by_cases ht0 : 0 < t
            · obtain ⟨q, hq⟩ : ∃ q, q = t - 1 := ⟨_, rfl⟩
              have hqS : q < S.length := by omega
              obtain ⟨g, og, rfl, -, hgl, d0, -⟩ := HO.out.rs.at q hqS
              have D0 := (hbt.cell (p := ⟨g, og + q * 5, none⟩) hgl).trans d0
              have E0 := ((HbB.out.trans (hbt.mono HbB.out.size)).cell (p := ⟨b, os + i_ * 5, none⟩) hbl).trans C0.out
              have hgl2 : g < wr.heap.size := Nat.lt_of_lt_of_le hgl hbt.size
              have hbl2 : b < wr.heap.size := Nat.lt_of_lt_of_le (Nat.lt_of_lt_of_le hbl HbB.out.size) hbt.size
              have hqI : (t : Int) - 1 = (q : Int) := by omega
              have hqw : IntKind.i64.wrap (q : Int) = (q : Int) := by rw [IntKind.wrap_i64]; omega
              have I6 := Go.Lib.hid (run_idx5 g og S.length c8 q hqS)
              have hys : S[q].1.size ≤ 1000000 := hFs.out _ (List.mem_of_mem_take ((HM.out _).1 (List.getElem_mem _)))
              obtain ⟨ky, hy⟩ : ∃ ky, ky = S[q].1 := ⟨_, rfl⟩
              rw [← hy] at D0 hys
              obtain ⟨z, hz⟩ : ∃ z, lessK kx ky = z := ⟨_, rfl⟩
              have CL := Go.Lib.hid fun W => rless_c kx ky z W hxs hys hz
              have HY := Go.Lib.hid hy
              have HZ := Go.Lib.hid hz
              clear d0 hys hy hz
              go_upto_region 16 with (fail)
              refine wp_region_each (by kernel_rfl) (VIB b os F.length cu i_ g og S.length c8 t q kx ky z) (VIB_below b os F.length cu i_ g og S.length c8 t q kx ky z) (by decide +kernel) (by decide +kernel) (by rfl) [59, 60, 61, 62, 63, 64, 65, 66, 67, 68, 69, 70, 71, 72, 73, 74] (by rfl) ?_ ?_
              · intro i o ho a w6 hb6 hlen hg
                have e0 := (hb6.cell (p := ⟨b, os + i_ * 5, none⟩) hbl2).trans E0
                have d0 := (hb6.cell (p := ⟨g, og + q * 5, none⟩) hgl2).trans D0
                match i, ho with
                | 0, ho =>
                  obtain rfl := Option.some.inj ho
                  have h10 := given_old hg 10 (by decide +kernel)
                  clear hg
                  exact st_yield ho (wanted_none rfl) (.int .i64 (t : Int)) w6 (by simp [execOp, Act.eval, h10, go_sem]) ⟨_, rfl, Below.refl _ _, by rintro t' ⟨⟩; rfl⟩
                | 1, ho =>
                  obtain rfl := Option.some.inj ho
                  obtain ⟨_, h59, rfl⟩ := given_fed hg 59 (by decide +kernel)
                  clear hg
                  exact st_yield ho (wanted_none rfl) (.bool true) w6 (by simp [execOp, Act.eval, h59, go_sem, ht0]) ⟨_, rfl, Below.refl _ _, by rintro t' ⟨⟩; rfl⟩
                | 2, ho =>
                  obtain rfl := Option.some.inj ho
                  obtain ⟨_, h60, rfl⟩ := given_fed hg 60 (by decide +kernel)
                  clear hg
                  exact st_yield ho (wanted_none rfl) (.bool true) w6 (by simp [execOp, Act.eval, h60, go_sem]) ⟨_, rfl, Below.refl _ _, by rintro t' ⟨⟩; rfl⟩
                | 3, ho =>
                  obtain rfl := Option.some.inj ho
                  have h3 := given_old hg 3 (by decide +kernel)
                  obtain ⟨_, h61, rfl⟩ := given_fed hg 61 (by decide +kernel)
                  clear hg
                  exact st_yield ho (wanted_some rfl rfl h61 rfl) (.slice (some ⟨b, os, none⟩) F.length cu) w6 (by simp [execOp, Act.eval, h3, go_sem]) ⟨_, rfl, Below.refl _ _, by rintro t' ⟨⟩; rfl⟩
                | 4, ho =>
                  obtain rfl := Option.some.inj ho
                  have h9 := given_old hg 9 (by decide +kernel)
                  obtain ⟨_, h61, rfl⟩ := given_fed hg 61 (by decide +kernel)
                  clear hg
                  exact st_yield ho (wanted_some rfl rfl h61 rfl) (.int .i64 (i_ : Int)) w6 (by simp [execOp, Act.eval, h9, go_sem]) ⟨_, rfl, Below.refl _ _, by rintro t' ⟨⟩; rfl⟩
                | 5, ho =>
                  obtain rfl := Option.some.inj ho
                  obtain ⟨_, h62, rfl⟩ := given_fed hg 62 (by decide +kernel)
                  obtain ⟨_, h63, rfl⟩ := given_fed hg 63 (by decide +kernel)
                  obtain ⟨_, h61, rfl⟩ := given_fed hg 61 (by decide +kernel)
                  clear hg
                  exact st_yield ho (wanted_some rfl rfl h61 rfl) (.pointer (some ⟨b, os + i_ * 5, none⟩)) w6 (by simp [execOp, Act.eval, h62, h63, go_sem, I5.out w6]) ⟨_, rfl, Below.refl _ _, by rintro t' ⟨⟩; rfl⟩
                | 6, ho =>
                  obtain rfl := Option.some.inj ho
                  obtain ⟨_, h64, rfl⟩ := given_fed hg 64 (by decide +kernel)
                  obtain ⟨_, h61, rfl⟩ := given_fed hg 61 (by decide +kernel)
                  clear hg
                  exact st_yield ho (wanted_some rfl rfl h61 rfl) (.pointer (some ⟨b, os + i_ * 5, none⟩)) w6 (by simp [execOp, Act.eval, h64, go_sem]) ⟨_, rfl, Below.refl _ _, by rintro t' ⟨⟩; rfl⟩
                | 7, ho =>
                  obtain rfl := Option.some.inj ho
                  obtain ⟨_, h65, rfl⟩ := given_fed hg 65 (by decide +kernel)
                  obtain ⟨_, h61, rfl⟩ := given_fed hg 61 (by decide +kernel)
                  clear hg
                  exact st_yield ho (wanted_some rfl rfl h61 rfl) (.string kx) w6 (by simp [execOp, Act.eval, h65, go_sem, e0]) ⟨_, rfl, Below.refl _ _, by rintro t' ⟨⟩; rfl⟩
                | 8, ho =>
                  obtain rfl := Option.some.inj ho
                  have h8 := given_old hg 8 (by decide +kernel)
                  obtain ⟨_, h61, rfl⟩ := given_fed hg 61 (by decide +kernel)
                  clear hg
                  exact st_yield ho (wanted_some rfl rfl h61 rfl) (.slice (some ⟨g, og, none⟩) S.length c8) w6 (by simp [execOp, Act.eval, h8, go_sem]) ⟨_, rfl, Below.refl _ _, by rintro t' ⟨⟩; rfl⟩
                | 9, ho =>
                  obtain rfl := Option.some.inj ho
                  have h10 := given_old hg 10 (by decide +kernel)
                  obtain ⟨_, h61, rfl⟩ := given_fed hg 61 (by decide +kernel)
                  clear hg
                  exact st_yield ho (wanted_some rfl rfl h61 rfl) (.int .i64 (t : Int)) w6 (by simp [execOp, Act.eval, h10, go_sem]) ⟨_, rfl, Below.refl _ _, by rintro t' ⟨⟩; rfl⟩
                | 10, ho =>
                  obtain rfl := Option.some.inj ho
                  obtain ⟨_, h68, rfl⟩ := given_fed hg 68 (by decide +kernel)
                  obtain ⟨_, h61, rfl⟩ := given_fed hg 61 (by decide +kernel)
                  clear hg
                  exact st_yield ho (wanted_some rfl rfl h61 rfl) (.int .i64 (q : Int)) w6 (by simp [execOp, Act.eval, h68, go_sem, hqI, hqw]) ⟨_, rfl, Below.refl _ _, by rintro t' ⟨⟩; rfl⟩
                | 11, ho =>
                  obtain rfl := Option.some.inj ho
                  obtain ⟨_, h67, rfl⟩ := given_fed hg 67 (by decide +kernel)
                  obtain ⟨_, h69, rfl⟩ := given_fed hg 69 (by decide +kernel)
                  obtain ⟨_, h61, rfl⟩ := given_fed hg 61 (by decide +kernel)
                  clear hg
                  exact st_yield ho (wanted_some rfl rfl h61 rfl) (.pointer (some ⟨g, og + q * 5, none⟩)) w6 (by simp [execOp, Act.eval, h67, h69, go_sem, I6.out w6]) ⟨_, rfl, Below.refl _ _, by rintro t' ⟨⟩; rfl⟩
                | 12, ho =>
                  obtain rfl := Option.some.inj ho
                  obtain ⟨_, h70, rfl⟩ := given_fed hg 70 (by decide +kernel)
                  obtain ⟨_, h61, rfl⟩ := given_fed hg 61 (by decide +kernel)
                  clear hg
                  exact st_yield ho (wanted_some rfl rfl h61 rfl) (.pointer (some ⟨g, og + q * 5, none⟩)) w6 (by simp [execOp, Act.eval, h70, go_sem]) ⟨_, rfl, Below.refl _ _, by rintro t' ⟨⟩; rfl⟩
                | 13, ho =>
                  obtain rfl := Option.some.inj ho
                  obtain ⟨_, h71, rfl⟩ := given_fed hg 71 (by decide +kernel)
                  obtain ⟨_, h61, rfl⟩ := given_fed hg 61 (by decide +kernel)
                  clear hg
                  exact st_yield ho (wanted_some rfl rfl h61 rfl) (.string ky) w6 (by simp [execOp, Act.eval, h71, go_sem, d0]) ⟨_, rfl, Below.refl _ _, by rintro t' ⟨⟩; rfl⟩
                | 14, ho =>
                  obtain rfl := Option.some.inj ho
                  obtain ⟨_, h66, rfl⟩ := given_fed hg 66 (by decide +kernel)
                  obtain ⟨_, h72, rfl⟩ := given_fed hg 72 (by decide +kernel)
                  obtain ⟨_, h61, rfl⟩ := given_fed hg 61 (by decide +kernel)
                  clear hg
                  exact st_enter (w1 := w6) ho (wanted_some rfl rfl h61 rfl) 20 #[.string kx, .string ky] (by simp [execOp, Act.eval, h66, h72, resolve, go_sem]) ((CL.out w6).mono (by rintro e w7 ⟨rfl, hb7⟩; exact ⟨_, rfl, _, rfl, hb7, by rintro t' ⟨⟩; rfl⟩))
                | 15, ho =>
                  obtain rfl := Option.some.inj ho
                  obtain ⟨_, h61, rfl⟩ := given_fed hg 61 (by decide +kernel)
                  obtain ⟨_, h73, rfl⟩ := given_fed hg 73 (by decide +kernel)
                  clear hg
                  exact st_yield ho (wanted_none rfl) (.bool z) w6 (by simp [execOp, Act.eval, h61, h73, go_sem]) ⟨_, rfl, Below.refl _ _, by rintro t' ⟨⟩; rfl⟩
                | n + 16, ho => simp at ho
              · intro f w6 hb6 hv'
                have h74 := hv' 74 (by decide)
                simp only [VIB] at h74
                have hbt6 := hbt.trans (hb6.mono hbt.size)
                clear hv' hb6 D0 E0 CL I6 hbt
                unfold putAll
                simp only [List.foldl]
                simp only [h74]
                go_simp
                cases z with
                | true =>
                  have HA2 : Hid (∀ j (h : j < S.length), t - 1 ≤ j → lessK kx (kf S[j]) = true) := Go.Lib.hid fun j h1 h2 => by
                    rcases Nat.lt_or_ge j t with h | h
                    · obtain rfl : j = q := by omega
                      have := HZ.out
                      rw [HY.out] at this
                      exact this
                    · exact HA.out j h1 h
                  clear HA HY HZ
                  go_wp2_with fail
                  go_roundw
                  case rel => exact ⟨t - 1, by first | rfl | rw [hq], by omega, HA2, hbt6⟩
                  case measure => simp only [intOf]; omega
                | false =>
                  have hlast : Hid (∀ h : t - 1 < S.length, 0 < t → lessK kx (kf S[t - 1]) = false) := Go.Lib.hid fun h _ => by
                    have := HZ.out
                    rw [HY.out] at this
                    subst hq
                    exact this
                  clear HY HZ hqI hqw
                  have HO6 := HO.out.below hbt6
                  have hbA6 := HbB.out.trans (hbt6.mono HbB.out.size)
                  have hone : Hid (RS (w6.alloc (.cells #[.string ⟨#[]⟩, .bool false, .int .i64 0, .int .i64 0, .string ⟨#[]⟩] 39)) (.slice (some ⟨w6.heap.size, 0, none⟩) 1 1) [zR]) := Go.Lib.hid (RS.one w6 zR)
                  have hOa := Go.Lib.hid (HO6.below (below_one w6 (.cells #[.string ⟨#[]⟩, .bool false, .int .i64 0, .int .i64 0, .string ⟨#[]⟩] 39)))
                  have hbA := Go.Lib.hid (hbA6.alloc hbA6.size (.cells #[.string ⟨#[]⟩, .bool false, .int .i64 0, .int .i64 0, .string ⟨#[]⟩] 39))
                  have hsz := hbA.out.size
                  have hl1 : Hid (S.length + [zR].length ≤ 1000000) := Go.Lib.hid (by simp only [List.length_cons, List.length_nil]; omega)
                  clear HO6 hbA6 hbt6
                  go_upto_region 19 with (first
                    | (with_reducible show wpList _ _ _ (⟨some 80, _, _, _, _, _⟩ :: _) _ _; go_must (refine wpList_append_recs rfl (.tmp 77) (.tmp 79) rfl wA.heap.size (.slice (some ⟨g, og, none⟩) S.length c8) (.slice (some ⟨w6.heap.size, 0, none⟩) 1 1) S [zR] rfl rfl hOa.out hone.out hl1.out hsz ?_); go_must (intro v3 w3 ho3 hg3; have hb3 := hbA.out.grown hg3 hsz hOa.out.row; obtain ⟨g3, c3, rfl, hB3, hlt3, hcl3, hcm3⟩ := own_form5 ho3 (by simp); have HO3 := Go.Lib.hid ho3; have HB3 := Go.Lib.hid hb3; clear hg3 ho3 hb3))
                    | fail)
                  obtain ⟨n, hnS⟩ : ∃ n, n = S.length + 1 := ⟨_, rfl⟩
                  rw [← hnS]
                  have hn : n = (S ++ [zR]).length := by rw [hnS]; simp
                  have HO4 : Hid (OwnRec w3 wA.heap.size (.slice (some ⟨g3, 0, none⟩) n c3) (S ++ [zR])) := Go.Lib.hid (by rw [hn]; exact HO3.out)
                  have HN := Go.Lib.hid hn
                  have Hsl1 : ∀ W, (Instr.slice 22 (.slice (some ⟨g3, 0, none⟩) n c3) (some (.int .i64 ((t : Int) + 1))) none none).run Try.prog W = .ok (sliced (some ⟨g3, 0, none⟩) (t + 1) n c3 K5.size) W := fun W => K5_ok.run_l (some ⟨g3, 0, none⟩) n c3 (t + 1) (by omega) .i64 W
                  have Hsl2 : ∀ W, (Instr.slice 22 (.slice (some ⟨g3, 0, none⟩) n c3) (some (.int .i64 (t : Int))) none none).run Try.prog W = .ok (sliced (some ⟨g3, 0, none⟩) t n c3 K5.size) W := fun W => K5_ok.run_l (some ⟨g3, 0, none⟩) n c3 t (by omega) .i64 W
                  obtain ⟨S1, hS1⟩ : ∃ S1, S1 = sliced (some ⟨g3, 0, none⟩) (t + 1) n c3 K5.size := ⟨_, rfl⟩
                  obtain ⟨S2, hS2⟩ : ∃ S2, S2 = sliced (some ⟨g3, 0, none⟩) t n c3 K5.size := ⟨_, rfl⟩
                  rw [← hS1] at Hsl1
                  rw [← hS2] at Hsl2
                  have HS1 := Go.Lib.hid hS1
                  have HS2 := Go.Lib.hid hS2
                  have htw : IntKind.i64.wrap ((t : Int) + 1) = (t : Int) + 1 := by rw [IntKind.wrap_i64]; omega
                  have ht40 : t ≤ 10000 := by omega
                  clear hn hS1 hS2 hone hOa hbA hsz hl1 HO3 hcl3 hcm3
                  refine wp_region_head 7 (by decide) (by kernel_rfl) (VI19 g3 n c3 t S1 S2) (VI19_below g3 n c3 t S1 S2) (by decide +kernel) (by rfl) [81, 82, 83, 84, 85, 86, 87] (by rfl) ?_ ?_
                  · intro i o hin ho a w6 hb6 hlen hg
                    match i, hin, ho with
                    | 0, hin, ho =>
                      obtain rfl := Option.some.inj ho
                      have h8 := given_old hg 8 (by decide +kernel)
                      clear hg
                      exact st_yield ho (wanted_none rfl) (.slice (some ⟨g3, 0, none⟩) n c3) w6 (by simp [execOp, Act.eval, h8, go_sem]) ⟨_, rfl, Below.refl _ _, by rintro t' ⟨⟩; rfl⟩
                    | 1, hin, ho =>
                      obtain rfl := Option.some.inj ho
                      have h10 := given_old hg 10 (by decide +kernel)
                      clear hg
                      exact st_yield ho (wanted_none rfl) (.int .i64 (t : Int)) w6 (by simp [execOp, Act.eval, h10, go_sem]) ⟨_, rfl, Below.refl _ _, by rintro t' ⟨⟩; rfl⟩
                    | 2, hin, ho =>
                      obtain rfl := Option.some.inj ho
                      obtain ⟨_, h82, rfl⟩ := given_fed hg 82 (by decide +kernel)
                      clear hg
                      exact st_yield ho (wanted_none rfl) (.int .i64 ((t : Int) + 1)) w6 (by simp [execOp, Act.eval, h82, go_sem, htw]) ⟨_, rfl, Below.refl _ _, by rintro t' ⟨⟩; rfl⟩
                    | 3, hin, ho =>
                      obtain rfl := Option.some.inj ho
                      obtain ⟨_, h81, rfl⟩ := given_fed hg 81 (by decide +kernel)
                      obtain ⟨_, h83, rfl⟩ := given_fed hg 83 (by decide +kernel)
                      clear hg
                      exact st_yield ho (wanted_none rfl) S1 w6 (by simp [execOp, Act.eval, h81, h83, run_sliceAt_slice w6 22 _ _ _ _ Try.underlying22, Hsl1, Result.andThen]) ⟨_, rfl, Below.refl _ _, by rintro t' ⟨⟩; rfl⟩
                    | 4, hin, ho =>
                      obtain rfl := Option.some.inj ho
                      have h8 := given_old hg 8 (by decide +kernel)
                      clear hg
                      exact st_yield ho (wanted_none rfl) (.slice (some ⟨g3, 0, none⟩) n c3) w6 (by simp [execOp, Act.eval, h8, go_sem]) ⟨_, rfl, Below.refl _ _, by rintro t' ⟨⟩; rfl⟩
                    | 5, hin, ho =>
                      obtain rfl := Option.some.inj ho
                      have h10 := given_old hg 10 (by decide +kernel)
                      clear hg
                      exact st_yield ho (wanted_none rfl) (.int .i64 (t : Int)) w6 (by simp [execOp, Act.eval, h10, go_sem]) ⟨_, rfl, Below.refl _ _, by rintro t' ⟨⟩; rfl⟩
                    | 6, hin, ho =>
                      obtain rfl := Option.some.inj ho
                      obtain ⟨_, h85, rfl⟩ := given_fed hg 85 (by decide +kernel)
                      obtain ⟨_, h86, rfl⟩ := given_fed hg 86 (by decide +kernel)
                      clear hg
                      exact st_yield ho (wanted_none rfl) S2 w6 (by simp [execOp, Act.eval, h85, h86, run_sliceAt_slice w6 22 _ _ _ _ Try.underlying22, Hsl2, Result.andThen]) ⟨_, rfl, Below.refl _ _, by rintro t' ⟨⟩; rfl⟩
                    | n + 7, hin, ho => omega
                  · intro f w7 hb7 hv
                    have h84 := hv 84 (by decide)
                    have h87 := hv 87 (by decide)
                    simp only [VI19] at h84 h87
                    have HO7 : Hid (K5.O w7 wA.heap.size (.slice (some ⟨g3, 0, none⟩) n c3) (S ++ [zR])) := Go.Lib.hid (HO4.out.below hb7)
                    have HB7 := Go.Lib.hid (HB3.out.trans (hb7.mono HB3.out.size))
                    have hti : t + 1 ≤ (S ++ [zR]).length := by rw [← HN.out]; omega
                    have Hti := Go.Lib.hid hti
                    have i4 := run_idx5 g3 0 n c3 t (by omega)
                    rw [Nat.zero_add] at i4
                    have i5' := I5.out
                    clear hv hb7 Hsl1 Hsl2 HB3 HO4 hti
                    unfold putAll
                    simp only [List.foldl, List.drop]
                    simp only [h84, h87]
                    go_simp
                    go_wp2_with (first
                      | (with_reducible show wpList _ _ _ (⟨some 88, _, _, _, _, _⟩ :: _) _ _; go_must (refine K5_ok.copy rfl (.tmp 84) (.tmp 87) rfl wA.heap.size g3 n c3 t (S ++ [zR]) HO7.out Hti.out S1 S2 rfl rfl HS1.out HS2.out wA HB7.out ?_); go_must (intro w8 ho8 hb8; have HO8 := Go.Lib.hid (Eq.mpr own5 ho8); have HB8 := Go.Lib.hid hb8; have f0 := (hb8.cell (p := ⟨b, os + i_ * 5, none⟩) hbl).trans C0.out; have f1 := (hb8.cell (p := ⟨b, os + i_ * 5 + 1, none⟩) hbl).trans C1.out; have f2 := (hb8.cell (p := ⟨b, os + i_ * 5 + 2, none⟩) hbl).trans C2.out; have f3 := (hb8.cell (p := ⟨b, os + i_ * 5 + 3, none⟩) hbl).trans C3.out; have f4 := (hb8.cell (p := ⟨b, os + i_ * 5 + 4, none⟩) hbl).trans C4.out; have HT := Go.Lib.hid (OwnRec.there HO8.out t (by simp only [List.length_append, List.length_take, List.length_drop, List.length_cons, List.length_nil]; omega)); clear ho8 hb8 HO7 HB7 Hti HS1 HS2))
                      | (with_reducible show wpList _ _ _ (⟨none, Op.store 39 _ _, _, _, _, _⟩ :: _) _ _; go_must (refine wpList_store_rec rfl rfl (.tmp 95) (.tmp 94) rfl g3 t (kx, gx, ax, nx, sx) rfl rfl HT.out ?_))
                      | fail)
                    go_roundw
                    case rel =>
                      have hlen8 : t < ((S ++ [zR]).take (t + 1) ++ ((S ++ [zR]).drop t).take ((S ++ [zR]).length - (t + 1))).length := by simp only [List.length_append, List.length_take, List.length_drop, List.length_cons, List.length_nil]; omega
                      have hset := OwnRec.store HO8.out t hlen8 (kx, gx, ax, nx, sx)
                      rw [insK_of S t zR (kx, gx, ax, nx, sx) hts] at hset
                      have hlx := insK_length S t (kx, gx, ax, nx, sx) hts
                      refine ⟨i_ + 1, _, insK S t (kx, gx, ax, nx, sx), rfl, by go_num, by omega, by rw [← hnS]; exact hset.1, by have := HSl.out; omega, Go.Lib.hid (insK_sort kf HP.out hts hnew.out HA.out hlast.out), Go.Lib.hid (fun y => (insK_mem S t (kx, gx, ax, nx, sx) y).trans (hmem.out y)), ?_⟩
                      exact HB8.out.grown hset.2 HB8.out.size (fun k hk => by cases hk; exact hB3)
                    case measure => simp only [intOf]; omega
            · have HTZ : Hid (t = 0) := Go.Lib.hid (by omega)
              have hlast : Hid (∀ h : t - 1 < S.length, 0 < t → lessK kx (kf S[t - 1]) = false) := Go.Lib.hid fun _ h => absurd h ht0
              go_upto_region 16 with (fail)
              refine wp_region_each (by kernel_rfl) (VIA b os F.length cu 0 0 0 S.length c8 t 0 kx kx true) (VIA_below b os F.length cu 0 0 0 S.length c8 t 0 kx kx true) (by decide +kernel) (by decide +kernel) (by rfl) [59, 60, 61, 62, 63, 64, 65, 66, 67, 68, 69, 70, 71, 72, 73, 74] (by rfl) ?_ ?_
              · intro i o ho a w6 hb6 hlen hg
                match i, ho with
                | 0, ho =>
                  obtain rfl := Option.some.inj ho
                  have h10 := given_old hg 10 (by decide +kernel)
                  clear hg
                  exact st_yield ho (wanted_none rfl) (.int .i64 (t : Int)) w6 (by simp [execOp, Act.eval, h10, go_sem]) ⟨_, rfl, Below.refl _ _, by rintro t' ⟨⟩; rfl⟩
                | 1, ho =>
                  obtain rfl := Option.some.inj ho
                  obtain ⟨_, h59, rfl⟩ := given_fed hg 59 (by decide +kernel)
                  clear hg
                  exact st_yield ho (wanted_none rfl) (.bool false) w6 (by simp [execOp, Act.eval, h59, go_sem, HTZ.out]) ⟨_, rfl, Below.refl _ _, by rintro t' ⟨⟩; rfl⟩
                | 2, ho =>
                  obtain rfl := Option.some.inj ho
                  obtain ⟨_, h60, rfl⟩ := given_fed hg 60 (by decide +kernel)
                  clear hg
                  exact st_yield ho (wanted_none rfl) (.bool false) w6 (by simp [execOp, Act.eval, h60, go_sem]) ⟨_, rfl, Below.refl _ _, by rintro t' ⟨⟩; rfl⟩
                | 3, ho =>
                  obtain rfl := Option.some.inj ho
                  obtain ⟨_, h61, rfl⟩ := given_fed hg 61 (by decide +kernel)
                  clear hg
                  exact st_skip ho (wanted_not rfl rfl h61 (by decide)) ⟨_, rfl, Below.refl _ _, by rintro t' ⟨⟩; rfl⟩
                | 4, ho =>
                  obtain rfl := Option.some.inj ho
                  obtain ⟨_, h61, rfl⟩ := given_fed hg 61 (by decide +kernel)
                  clear hg
                  exact st_skip ho (wanted_not rfl rfl h61 (by decide)) ⟨_, rfl, Below.refl _ _, by rintro t' ⟨⟩; rfl⟩
                | 5, ho =>
                  obtain rfl := Option.some.inj ho
                  obtain ⟨_, h61, rfl⟩ := given_fed hg 61 (by decide +kernel)
                  clear hg
                  exact st_skip ho (wanted_not rfl rfl h61 (by decide)) ⟨_, rfl, Below.refl _ _, by rintro t' ⟨⟩; rfl⟩
                | 6, ho =>
                  obtain rfl := Option.some.inj ho
                  obtain ⟨_, h61, rfl⟩ := given_fed hg 61 (by decide +kernel)
                  clear hg
                  exact st_skip ho (wanted_not rfl rfl h61 (by decide)) ⟨_, rfl, Below.refl _ _, by rintro t' ⟨⟩; rfl⟩
                | 7, ho =>
                  obtain rfl := Option.some.inj ho
                  obtain ⟨_, h61, rfl⟩ := given_fed hg 61 (by decide +kernel)
                  clear hg
                  exact st_skip ho (wanted_not rfl rfl h61 (by decide)) ⟨_, rfl, Below.refl _ _, by rintro t' ⟨⟩; rfl⟩
                | 8, ho =>
                  obtain rfl := Option.some.inj ho
                  obtain ⟨_, h61, rfl⟩ := given_fed hg 61 (by decide +kernel)
                  clear hg
                  exact st_skip ho (wanted_not rfl rfl h61 (by decide)) ⟨_, rfl, Below.refl _ _, by rintro t' ⟨⟩; rfl⟩
                | 9, ho =>
                  obtain rfl := Option.some.inj ho
                  obtain ⟨_, h61, rfl⟩ := given_fed hg 61 (by decide +kernel)
                  clear hg
                  exact st_skip ho (wanted_not rfl rfl h61 (by decide)) ⟨_, rfl, Below.refl _ _, by rintro t' ⟨⟩; rfl⟩
                | 10, ho =>
                  obtain rfl := Option.some.inj ho
                  obtain ⟨_, h61, rfl⟩ := given_fed hg 61 (by decide +kernel)
                  clear hg
                  exact st_skip ho (wanted_not rfl rfl h61 (by decide)) ⟨_, rfl, Below.refl _ _, by rintro t' ⟨⟩; rfl⟩
                | 11, ho =>
                  obtain rfl := Option.some.inj ho
                  obtain ⟨_, h61, rfl⟩ := given_fed hg 61 (by decide +kernel)
                  clear hg
                  exact st_skip ho (wanted_not rfl rfl h61 (by decide)) ⟨_, rfl, Below.refl _ _, by rintro t' ⟨⟩; rfl⟩
                | 12, ho =>
                  obtain rfl := Option.some.inj ho
                  obtain ⟨_, h61, rfl⟩ := given_fed hg 61 (by decide +kernel)
                  clear hg
                  exact st_skip ho (wanted_not rfl rfl h61 (by decide)) ⟨_, rfl, Below.refl _ _, by rintro t' ⟨⟩; rfl⟩
                | 13, ho =>
                  obtain rfl := Option.some.inj ho
                  obtain ⟨_, h61, rfl⟩ := given_fed hg 61 (by decide +kernel)
                  clear hg
                  exact st_skip ho (wanted_not rfl rfl h61 (by decide)) ⟨_, rfl, Below.refl _ _, by rintro t' ⟨⟩; rfl⟩
                | 14, ho =>
                  obtain rfl := Option.some.inj ho
                  obtain ⟨_, h61, rfl⟩ := given_fed hg 61 (by decide +kernel)
                  clear hg
                  exact st_skip ho (wanted_not rfl rfl h61 (by decide)) ⟨_, rfl, Below.refl _ _, by rintro t' ⟨⟩; rfl⟩
                | 15, ho =>
                  obtain rfl := Option.some.inj ho
                  obtain ⟨_, h61, rfl⟩ := given_fed hg 61 (by decide +kernel)
                  obtain ⟨_, h73, rfl⟩ := given_fed hg 73 (by decide +kernel)
                  clear hg
                  exact st_yield ho (wanted_none rfl) (.bool false) w6 (by simp [execOp, Act.eval, h61, h73, go_sem]) ⟨_, rfl, Below.refl _ _, by rintro t' ⟨⟩; rfl⟩
                | n + 16, ho => simp at ho
              · intro f w6 hb6 hv'
                have h74 := hv' 74 (by decide)
                simp only [VIA] at h74
                have hbt6 := hbt.trans (hb6.mono hbt.size)
                clear hv' hb6 hbt
                unfold putAll
                simp only [List.foldl]
                simp only [h74]
                go_simp
                clear HTZ
                have HO6 := HO.out.below hbt6
                have hbA6 := HbB.out.trans (hbt6.mono HbB.out.size)
                have hone : Hid (RS (w6.alloc (.cells #[.string ⟨#[]⟩, .bool false, .int .i64 0, .int .i64 0, .string ⟨#[]⟩] 39)) (.slice (some ⟨w6.heap.size, 0, none⟩) 1 1) [zR]) := Go.Lib.hid (RS.one w6 zR)
                have hOa := Go.Lib.hid (HO6.below (below_one w6 (.cells #[.string ⟨#[]⟩, .bool false, .int .i64 0, .int .i64 0, .string ⟨#[]⟩] 39)))
                have hbA := Go.Lib.hid (hbA6.alloc hbA6.size (.cells #[.string ⟨#[]⟩, .bool false, .int .i64 0, .int .i64 0, .string ⟨#[]⟩] 39))
                have hsz := hbA.out.size
                have hl1 : Hid (S.length + [zR].length ≤ 1000000) := Go.Lib.hid (by simp only [List.length_cons, List.length_nil]; omega)
                clear HO6 hbA6 hbt6
                go_upto_region 19 with (first
                  | (with_reducible show wpList _ _ _ (⟨some 80, _, _, _, _, _⟩ :: _) _ _; go_must (refine wpList_append_recs rfl (.tmp 77) (.tmp 79) rfl wA.heap.size (.slice a8 S.length c8) (.slice (some ⟨w6.heap.size, 0, none⟩) 1 1) S [zR] rfl rfl hOa.out hone.out hl1.out hsz ?_); go_must (intro v3 w3 ho3 hg3; have hb3 := hbA.out.grown hg3 hsz hOa.out.row; obtain ⟨g3, c3, rfl, hB3, hlt3, hcl3, hcm3⟩ := own_form5 ho3 (by simp); have HO3 := Go.Lib.hid ho3; have HB3 := Go.Lib.hid hb3; clear hg3 ho3 hb3))
                  | fail)
                obtain ⟨n, hnS⟩ : ∃ n, n = S.length + 1 := ⟨_, rfl⟩
                rw [← hnS]
                have hn : n = (S ++ [zR]).length := by rw [hnS]; simp
                have HO4 : Hid (OwnRec w3 wA.heap.size (.slice (some ⟨g3, 0, none⟩) n c3) (S ++ [zR])) := Go.Lib.hid (by rw [hn]; exact HO3.out)
                have HN := Go.Lib.hid hn
                have Hsl1 : ∀ W, (Instr.slice 22 (.slice (some ⟨g3, 0, none⟩) n c3) (some (.int .i64 ((t : Int) + 1))) none none).run Try.prog W = .ok (sliced (some ⟨g3, 0, none⟩) (t + 1) n c3 K5.size) W := fun W => K5_ok.run_l (some ⟨g3, 0, none⟩) n c3 (t + 1) (by omega) .i64 W
                have Hsl2 : ∀ W, (Instr.slice 22 (.slice (some ⟨g3, 0, none⟩) n c3) (some (.int .i64 (t : Int))) none none).run Try.prog W = .ok (sliced (some ⟨g3, 0, none⟩) t n c3 K5.size) W := fun W => K5_ok.run_l (some ⟨g3, 0, none⟩) n c3 t (by omega) .i64 W
                obtain ⟨S1, hS1⟩ : ∃ S1, S1 = sliced (some ⟨g3, 0, none⟩) (t + 1) n c3 K5.size := ⟨_, rfl⟩
                obtain ⟨S2, hS2⟩ : ∃ S2, S2 = sliced (some ⟨g3, 0, none⟩) t n c3 K5.size := ⟨_, rfl⟩
                rw [← hS1] at Hsl1
                rw [← hS2] at Hsl2
                have HS1 := Go.Lib.hid hS1
                have HS2 := Go.Lib.hid hS2
                have htw : IntKind.i64.wrap ((t : Int) + 1) = (t : Int) + 1 := by rw [IntKind.wrap_i64]; omega
                have ht40 : t ≤ 10000 := by omega
                clear hn hS1 hS2 hone hOa hbA hsz hl1 HO3 hcl3 hcm3
                refine wp_region_head 7 (by decide) (by kernel_rfl) (VI19 g3 n c3 t S1 S2) (VI19_below g3 n c3 t S1 S2) (by decide +kernel) (by rfl) [81, 82, 83, 84, 85, 86, 87] (by rfl) ?_ ?_
                · intro i o hin ho a w6 hb6 hlen hg
                  match i, hin, ho with
                  | 0, hin, ho =>
                    obtain rfl := Option.some.inj ho
                    have h8 := given_old hg 8 (by decide +kernel)
                    clear hg
                    exact st_yield ho (wanted_none rfl) (.slice (some ⟨g3, 0, none⟩) n c3) w6 (by simp [execOp, Act.eval, h8, go_sem]) ⟨_, rfl, Below.refl _ _, by rintro t' ⟨⟩; rfl⟩
                  | 1, hin, ho =>
                    obtain rfl := Option.some.inj ho
                    have h10 := given_old hg 10 (by decide +kernel)
                    clear hg
                    exact st_yield ho (wanted_none rfl) (.int .i64 (t : Int)) w6 (by simp [execOp, Act.eval, h10, go_sem]) ⟨_, rfl, Below.refl _ _, by rintro t' ⟨⟩; rfl⟩
                  | 2, hin, ho =>
                    obtain rfl := Option.some.inj ho
                    obtain ⟨_, h82, rfl⟩ := given_fed hg 82 (by decide +kernel)
                    clear hg
                    exact st_yield ho (wanted_none rfl) (.int .i64 ((t : Int) + 1)) w6 (by simp [execOp, Act.eval, h82, go_sem, htw]) ⟨_, rfl, Below.refl _ _, by rintro t' ⟨⟩; rfl⟩
                  | 3, hin, ho =>
                    obtain rfl := Option.some.inj ho
                    obtain ⟨_, h81, rfl⟩ := given_fed hg 81 (by decide +kernel)
                    obtain ⟨_, h83, rfl⟩ := given_fed hg 83 (by decide +kernel)
                    clear hg
                    exact st_yield ho (wanted_none rfl) S1 w6 (by simp [execOp, Act.eval, h81, h83, run_sliceAt_slice w6 22 _ _ _ _ Try.underlying22, Hsl1, Result.andThen]) ⟨_, rfl, Below.refl _ _, by rintro t' ⟨⟩; rfl⟩
                  | 4, hin, ho =>
                    obtain rfl := Option.some.inj ho
                    have h8 := given_old hg 8 (by decide +kernel)
                    clear hg
                    exact st_yield ho (wanted_none rfl) (.slice (some ⟨g3, 0, none⟩) n c3) w6 (by simp [execOp, Act.eval, h8, go_sem]) ⟨_, rfl, Below.refl _ _, by rintro t' ⟨⟩; rfl⟩
                  | 5, hin, ho =>
                    obtain rfl := Option.some.inj ho
                    have h10 := given_old hg 10 (by decide +kernel)
                    clear hg
                    exact st_yield ho (wanted_none rfl) (.int .i64 (t : Int)) w6 (by simp [execOp, Act.eval, h10, go_sem]) ⟨_, rfl, Below.refl _ _, by rintro t' ⟨⟩; rfl⟩
                  | 6, hin, ho =>
                    obtain rfl := Option.some.inj ho
                    obtain ⟨_, h85, rfl⟩ := given_fed hg 85 (by decide +kernel)
                    obtain ⟨_, h86, rfl⟩ := given_fed hg 86 (by decide +kernel)
                    clear hg
                    exact st_yield ho (wanted_none rfl) S2 w6 (by simp [execOp, Act.eval, h85, h86, run_sliceAt_slice w6 22 _ _ _ _ Try.underlying22, Hsl2, Result.andThen]) ⟨_, rfl, Below.refl _ _, by rintro t' ⟨⟩; rfl⟩
                  | n + 7, hin, ho => omega
                · intro f w7 hb7 hv
                  have h84 := hv 84 (by decide)
                  have h87 := hv 87 (by decide)
                  simp only [VI19] at h84 h87
                  have HO7 : Hid (K5.O w7 wA.heap.size (.slice (some ⟨g3, 0, none⟩) n c3) (S ++ [zR])) := Go.Lib.hid (HO4.out.below hb7)
                  have HB7 := Go.Lib.hid (HB3.out.trans (hb7.mono HB3.out.size))
                  have hti : t + 1 ≤ (S ++ [zR]).length := by rw [← HN.out]; omega
                  have Hti := Go.Lib.hid hti
                  have i4 := run_idx5 g3 0 n c3 t (by omega)
                  rw [Nat.zero_add] at i4
                  have i5' := I5.out
                  clear hv hb7 Hsl1 Hsl2 HB3 HO4 hti
                  unfold putAll
                  simp only [List.foldl, List.drop]
                  simp only [h84, h87]
                  go_simp
                  go_wp2_with (first
                    | (with_reducible show wpList _ _ _ (⟨some 88, _, _, _, _, _⟩ :: _) _ _; go_must (refine K5_ok.copy rfl (.tmp 84) (.tmp 87) rfl wA.heap.size g3 n c3 t (S ++ [zR]) HO7.out Hti.out S1 S2 rfl rfl HS1.out HS2.out wA HB7.out ?_); go_must (intro w8 ho8 hb8; have HO8 := Go.Lib.hid (Eq.mpr own5 ho8); have HB8 := Go.Lib.hid hb8; have f0 := (hb8.cell (p := ⟨b, os + i_ * 5, none⟩) hbl).trans C0.out; have f1 := (hb8.cell (p := ⟨b, os + i_ * 5 + 1, none⟩) hbl).trans C1.out; have f2 := (hb8.cell (p := ⟨b, os + i_ * 5 + 2, none⟩) hbl).trans C2.out; have f3 := (hb8.cell (p := ⟨b, os + i_ * 5 + 3, none⟩) hbl).trans C3.out; have f4 := (hb8.cell (p := ⟨b, os + i_ * 5 + 4, none⟩) hbl).trans C4.out; have HT := Go.Lib.hid (OwnRec.there HO8.out t (by simp only [List.length_append, List.length_take, List.length_drop, List.length_cons, List.length_nil]; omega)); clear ho8 hb8 HO7 HB7 Hti HS1 HS2))
                    | (with_reducible show wpList _ _ _ (⟨none, Op.store 39 _ _, _, _, _, _⟩ :: _) _ _; go_must (refine wpList_store_rec rfl rfl (.tmp 95) (.tmp 94) rfl g3 t (kx, gx, ax, nx, sx) rfl rfl HT.out ?_))
                    | fail)
                  go_roundw
                  case rel =>
                    have hlen8 : t < ((S ++ [zR]).take (t + 1) ++ ((S ++ [zR]).drop t).take ((S ++ [zR]).length - (t + 1))).length := by simp only [List.length_append, List.length_take, List.length_drop, List.length_cons, List.length_nil]; omega
                    have hset := OwnRec.store HO8.out t hlen8 (kx, gx, ax, nx, sx)
                    rw [insK_of S t zR (kx, gx, ax, nx, sx) hts] at hset
                    have hlx := insK_length S t (kx, gx, ax, nx, sx) hts
                    refine ⟨i_ + 1, _, insK S t (kx, gx, ax, nx, sx), rfl, by go_num, by omega, by rw [← hnS]; exact hset.1, by have := HSl.out; omega, Go.Lib.hid (insK_sort kf HP.out hts hnew.out HA.out hlast.out), Go.Lib.hid (fun y => (insK_mem S t (kx, gx, ax, nx, sx) y).trans (hmem.out y)), ?_⟩
                    exact HB8.out.grown hset.2 HB8.out.size (fun k hk => by cases hk; exact hB3)
                  case measure => simp only [intOf]; omega
        · obtain rfl : i_ = F.length := by omega
          rw [List.take_length] at HM
          have HO : Hid (OwnRec wr w.heap.size u8 S) := Go.Lib.hid (hO.mono HB.out.size)
          have hfin := HB.out.trans (hb.mono HB.out.size)
          have HM2 : Hid (∀ x, x ∈ S ↔ x ∈ firstsK kf (ss.flatMap (·.2))) := Go.Lib.hid fun x => by rw [← HF.out]; exact HM.out x
          have hsl : S.length ≤ (ss.flatMap (·.2)).length := by
            have := (firstsK_facts kf (ss.flatMap (·.2))).2.2.2
            rw [hSl, HF.out]
            exact this
          have HFin : Hid (OrderTo u8 (ss.flatMap (·.2)) w wr) := Go.Lib.hid ⟨S, HO.out, HP.out, HM2.out, hsl⟩
          clear hO HM HP hb HM2 HO
          go_wp2_with fail
          go_ret
          exact ⟨_, rfl, HFin.out, hfin⟩

end Go.Proofs.Ytibbligidncocaa
