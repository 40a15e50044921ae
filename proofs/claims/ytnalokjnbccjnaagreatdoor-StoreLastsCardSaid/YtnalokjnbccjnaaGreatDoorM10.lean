/-
  The contract of store's split.
  The contract of store's prepare.
  The contract of store's decodeHead.
  The contract of store's prepare.
  The contract of store's write.
-/
import Derived.Test.YtnalokjnbccjnaaGreatDoorM09
import Derived.Test.YtnalokjnbccjnaaGreatDoorM08
import Derived.LoopTactic
import Derived.StringKeys
import Derived.Test.YtnalokjnbccjnaaGreatDoorM04
import Derived.Test.YtnalokjnbccjnaaGreatDoorM03
import Derived.Test.YtnalokjnbccjnaaGreatDoorM07
import Derived.Test.YtnalokjnbccjnaaGreatDoorM06
import Derived.Test.YtnalokjnbccjnaaGreatDoorM02
namespace Go.Proofs.YtnalokjnbccjnaaGreatDoor
open Go.RowKit Go.Maps Go.WideMaps

section
variable {l : List Value}
theorem sl0 (h : l.length = 0) : l = [] := List.eq_nil_of_length_eq_zero h
theorem sl1 (h : l.length = 1) : ∃ a, l = [a] := by match l, h with | [a], _ => exact ⟨a, rfl⟩
theorem sl2 (h : l.length = 2) : ∃ a b, l = [a, b] := by match l, h with | [a, b], _ => exact ⟨a, b, rfl⟩
end
theorem all4 (nm : ByteArray) (a b c : Int) : (#[Value.string nm, .int .i64 a, .int .i64 b, .int .i64 c] : Array Value).all (·.oneCell') = true := by simp [Value.oneCell']
theorem below_setRow' {w0 w : World} {B : Nat} (h : Below B w0 w) (g : Nat) (cs : Array Value) (hg : B ≤ g) : Below B w0 (w.setRow g cs) := below_setRow h g cs hg
theorem pmlaw : Keyed Tryz.prog 9 := string_keyed Tryz.underlying9
theorem pmzero (w : World) : (zeroValue 3).run Tryz.prog w = .ok (.int .i64 0) w := by kernel_rfl
/-- The row of a slice is not a map. -/
theorem own_ne_map {H : Type} {e : TypeId} {w : World} {B s m b n : Nat} {v : Value} {xs : List Value} {P : Program} {k : TypeId} {R : Value → Option (DataW H × List MemPlace)} {D : DataW H} (h : w.ownsRow B e s v m xs) (hm : w.ownsMap P k R b n D) : some b ≠ v.ownBlock := by
  obtain ⟨es, clock, hb, -⟩ := hm
  rcases h.2 with ⟨rfl, -⟩ | ⟨g, cap, cur, rfl, -, hg, -⟩
  · intro e; cases e
  · intro e
    simp only [Value.ownBlock, Option.some.injEq] at e
    subst e
    rw [hb] at hg
    cases hg

theorem World.ownsRow.row' {e : TypeId} {w : World} {B s m : Nat} {v : Value} {xs : List Value} (h : w.ownsRow B e s v m xs) : ∀ k, v.ownBlock = some k → B ≤ k := fun k hk => (World.ownsRow.lt h k hk).1
/-- Rows of two types are two. -/
theorem rows_apart {e1 e2 : TypeId} (he : e1 ≠ e2) {w : World} {B1 B2 s1 s2 m1 m2 : Nat} {v1 v2 : Value} {x1 x2 : List Value} (h1 : w.ownsRow B1 e1 s1 v1 m1 x1) (h2 : w.ownsRow B2 e2 s2 v2 m2 x2) : v1.ownBlock = none ∨ v1.ownBlock ≠ v2.ownBlock := by
  rcases h1.2 with ⟨rfl, -⟩ | ⟨g, cap, cur, rfl, -, hg, -⟩
  · exact .inl rfl
  · exact .inr (own_ne h2 hg he)

/-- What stands while a file's entry is made. -/
def CSp (w0 : World) (nm : ByteArray) (m : Nat) : List Value → World → Prop
  | [], W => Below w0.heap.size w0 W
  | [p], W => ∃ b, p = .pointer (some ⟨b, 0, none⟩) ∧ w0.heap.size ≤ b ∧ W.heap[b]? = some (.cells #[.string ⟨#[]⟩, .int .i64 0, .int .i64 0, .int .i64 0] 98) ∧ Below w0.heap.size w0 W
  | [p, _], W => ∃ b, p = .pointer (some ⟨b, 0, none⟩) ∧ w0.heap.size ≤ b ∧ W.heap[b]? = some (.cells #[.string nm, .int .i64 (m : Int), .int .i64 0, .int .i64 0] 98) ∧ Below w0.heap.size w0 W
  | _, W => Below w0.heap.size w0 W
theorem CSp.bel {w0 : World} {nm : ByteArray} {m : Nat} : ∀ {vs : List Value} {W : World}, CSp w0 nm m vs W → Below w0.heap.size w0 W
  | [], _, h => h
  | [_], _, ⟨_, _, _, _, h⟩ => h
  | [_, _], _, ⟨_, _, _, _, h⟩ => h
  | _ :: _ :: _ :: _, _, h => h
theorem CSp.mono {w0 : World} {nm : ByteArray} {m : Nat} : ∀ {vs : List Value} {W W' : World}, CSp w0 nm m vs W → Below W.heap.size W W' → CSp w0 nm m vs W'
  | [], _, _, h, hb => below_to h (Nat.le_refl _) hb
  | [_], _, _, ⟨b, h1, h2, h3, h4⟩, hb => ⟨b, h1, h2, keptR h3 hb, below_to h4 (Nat.le_refl _) hb⟩
  | [_, _], _, _, ⟨b, h1, h2, h3, h4⟩, hb => ⟨b, h1, h2, keptR h3 hb, below_to h4 (Nat.le_refl _) hb⟩
  | _ :: _ :: _ :: _, _, _, h, hb => below_to h (Nat.le_refl _) hb
def VSp (ub m : Nat) (nm : ByteArray) (sl : Option Addr × Nat × Nat) : Nat → Value → Prop
  | 70, v => v = .pointer (some ⟨ub, 0, none⟩)
  | 71, v => v = .string nm
  | 72, v => v = .string nm
  | 73, v => v = .pointer (some ⟨ub, 2, none⟩)
  | 74, v => v = slV sl
  | 75, v => v = .int .i64 (m : Int)
  | 76, v => v = .agg #[.string nm, .int .i64 (m : Int), .int .i64 0, .int .i64 0]
  | _, _ => True


theorem cell_of3 {w : World} {k : Nat} {a b c : Value} {t : TypeId} {fr : Nat × Nat} (h : w.heap[k]? = some (.cells #[a, b, c] t fr)) : w.cell? ⟨k, 0, none⟩ = some a ∧ w.cell? ⟨k, 1, none⟩ = some b ∧ w.cell? ⟨k, 2, none⟩ = some c :=
  ⟨by rw [cell_of_row w k 0 _ _ _ h]; rfl, by rw [cell_of_row w k 1 _ _ _ h]; rfl, by rw [cell_of_row w k 2 _ _ _ h]; rfl⟩
theorem keptE_snoc (es : List EntT) (x : EntT) (l : List PutT) : keptE (es ++ [x]) l = keptE es l ++ (if l.any (fun y => decide (y.1 = x.1)) = true then [] else [x]) := by
  unfold keptE
  rw [List.filter_append]
  cases h : l.any fun y => decide (y.1 = x.1) with
  | true => rw [if_pos rfl, List.filter_cons_of_neg (by simp [h]), List.filter_nil]
  | false => rw [if_neg (by simp), List.filter_cons_of_pos (by simp [h]), List.filter_nil]
theorem has_any {H : Type} (l : List PutT) (nm : ByteArray) : has (mapN H (l.map (·.1)) l.length) (.string nm.data.toList) = l.any fun y => decide (y.1 = nm) := by
  have h := mapN_has (H := H) (l := l.map (·.1)) nm.data.toList l.length (by simp)
  rw [List.take_of_length_le (by simp)] at h
  have e : (∃ x ∈ l.map (·.1), x.data.toList = nm.data.toList) ↔ (l.any fun y => decide (y.1 = nm)) = true := by
    rw [List.any_eq_true]
    constructor
    · rintro ⟨x, hx, he⟩
      obtain ⟨y, hy, rfl⟩ := List.mem_map.1 hx
      exact ⟨y, hy, decide_eq_true (by
        have h1 : y.1.data = nm.data := by rw [← Array.toArray_toList (xs := y.1.data), he, Array.toArray_toList]
        exact ByteArray.ext h1)⟩
    · rintro ⟨y, hy, he⟩
      exact ⟨y.1, List.mem_map_of_mem hy, by rw [of_decide_eq_true he]⟩
  cases h1 : has (mapN H (l.map (·.1)) l.length) (.string nm.data.toList) with
  | true => exact (e.1 (h.1 h1)).symm
  | false =>
    cases h2 : l.any fun y => decide (y.1 = nm) with
    | false => rfl
    | true => rw [h.2 (e.2 h2)] at h1; cases h1
/-- The place at which the name of the put at k stands last is k just if no later one has it. -/
theorem last_at {H : Type} (l : List PutT) (k : Nat) (hk : k < l.length) : ∃ i : Nat, i < l.length ∧ (∀ z, (mapN H (l.map (·.1)) l.length).atKey (.string l[k].1.data.toList) z = .lit (.int .i64 (i : Int))) ∧ (i = k ↔ lastP l k = true) := by
  have hh : has (mapN H (l.map (·.1)) l.length) (.string l[k].1.data.toList) = true := by
    rw [has_any, List.any_eq_true]
    exact ⟨l[k], List.getElem_mem hk, decide_eq_true rfl⟩
  obtain ⟨i, hi, h0, h1, h2, h3⟩ := mapN_at (H := H) (l := l.map (·.1)) l[k].1.data.toList l.length (by simp) hh
  have hil : i < l.length := by simpa using hi
  have hg : l.getD k default = l[k] := by rw [List.getD, List.getElem?_eq_getElem hk]; rfl
  refine ⟨i, hil, h1, ?_⟩
  unfold lastP
  rw [hg]
  constructor
  · rintro rfl
    rw [List.all_eq_true]
    intro x hx
    obtain ⟨j, hj, rfl⟩ := List.mem_iff_getElem.1 hx
    rw [List.length_drop] at hj
    have := h3 (i + 1 + j) (by simp; omega) (by omega) (by omega)
    rw [List.getElem_map] at this
    rw [List.getElem_drop]
    simp only [Bool.not_eq_true', decide_eq_false_iff_not]
    exact fun e => this (by rw [e])
  · intro hall
    rw [List.all_eq_true] at hall
    rcases Nat.lt_trichotomy i k with h | h | h
    · have := h3 k (by simpa using hk) h hk
      rw [List.getElem_map] at this
      exact absurd rfl this
    · exact h
    · have hm : l[i] ∈ l.drop (k + 1) := by
        have : l[i] = (l.drop (k + 1))[i - (k + 1)]'(by rw [List.length_drop]; omega) := by rw [List.getElem_drop]; congr 1; omega
        rw [this]
        exact List.getElem_mem _
      have := hall _ hm
      simp only [Bool.not_eq_true', decide_eq_false_iff_not] at this
      rw [List.getElem_map] at h2
      exact absurd (ByteArray.ext (by rw [← Array.toArray_toList (xs := l[i].1.data), h2, Array.toArray_toList])) this

theorem wantK_len (l : List PutT) : ∀ k, (wantK l k).length ≤ k
  | 0 => Nat.le_refl _
  | k + 1 => by
    have := wantK_len l k
    show (wantK l k ++ _).length ≤ _
    rw [List.length_append]
    split <;> simp <;> omega
section
variable {w : World} {B s d p : Nat} {es : List EntT} {ls : List Nat} {down : Bool}
set_option maxHeartbeats 4000000 in
set_option maxRecDepth 100000 in
theorem split_c (hs : ST w B s d p es ls down) (v : Value) (l : List PutT) (hv : RPt w v l) (hl : l.length ≤ 1000) (hn : ∀ x ∈ l, x.1.size ≤ 20 ∧ x.2.2.2.length ≤ 65536) (he : es.length ≤ 32) (hen : ∀ x ∈ es, x.1.size ≤ 1000) :
    Calls Tryz.prog 37 #[.pointer (some ⟨s, 0, none⟩), v] w fun e w' => ∃ vk vw, e = .returned (.tuple #[vk, vw]) ∧ OwnE w' w.heap.size vk (keptE es l) ∧ OwnFr w' w.heap.size vw ((wantF l).map freshP) ∧ Below w.heap.size w w' := by
  obtain ⟨a1, q1, a2, q2, hblk, ho1, -⟩ := hs.open
  have HBLK := Go.Lib.hid hblk
  have HE := Go.Lib.hid ho1
  have HV := Go.Lib.hid hv
  have HN := Go.Lib.hid hn
  have HEN := Go.Lib.hid hen
  obtain ⟨pv, cv, rfl⟩ := hv.form
  have hmm := @run_makeMap Tryz.prog
  clear hs hv hn hen hblk ho1
  go_enter Tryz.func37, Tryz.ntmps37
  go_wp2_with fail
  go_loopw [19] (fun i wr => ∃ k : Nat, k ≤ l.length ∧ i = .int .i64 (k : Int) ∧ wr.ownsMap Tryz.prog 9 (plainElem Tryz.prog 3) w.heap.size k (mapN Unit (l.map (·.1)) k) ∧ Below w.heap.size w wr) (fun i _ => l.length - (intOf i).toNat)
  case atStart => exact ⟨0, Nat.zero_le _, rfl, World.ownsMap_made _ _ _ _, (Below.refl _ _).alloc (Nat.le_refl _) _⟩
  case round =>
    obtain ⟨k, hk, rfl, hown, hbc⟩ := hrel
    by_cases hlt : k < l.length
    · obtain ⟨g, rfl, -, c0, c1, c2⟩ := (HV.out.below hbc).at k hlt
      have hx := (HN.out l[k] (List.getElem_mem hlt)).1
      have Hst := Go.Lib.hid (mapN_succ (H := Unit) (l := l.map (·.1)) k (by simpa using hlt))
      rw [List.getElem_map] at Hst
      generalize l[k] = x at *
      obtain ⟨nm, gn, sl, bs⟩ := x
      simp only [slV] at c0 c1 c2 hx Hst
      have hkey : keyOf Tryz.prog 9 (.string nm) = some (.string nm.data.toList) := keyOf_string_mk Tryz.underlying9 (by unfold maxLen; omega)
      have hwf : (Lit.int .i64 (k : Int)).wf = true := by
        rw [show (k : Int) = wrap64 (k : Int) from by unfold wrap64; omega]
        exact wrap64_wf _
      have hown2 := hown.alloc (.cells #[.string nm, .bool gn, .slice sl.1 sl.2.1 sl.2.2] 47)
      have hbc2 := below_to hbc (Nat.le_refl _) (newB wr (.cells #[.string nm, .bool gn, .slice sl.1 sl.2.1 sl.2.2] 47))
      have Hown := Go.Lib.hid hown2
      have Hk := Go.Lib.hid (And.intro hkey hwf)
      have HBC := Go.Lib.hid hbc2
      clear hx hown hown2 hkey hwf hbc hbc2
      go_wp2_with (first
        | (at_mapUpdate; refine wpList_mapUpdate_own _ rfl _ _ _ 108 rfl 9 3 pmlaw Tryz.underlying108 _ w.heap.size k _ rfl Hown.out (by unfold maxLen; omega) _ _ _ rfl rfl Hk.out.1 _ [] (plainElem_int Tryz.underlying3 Hk.out.2) ?_; intro w1 hown1 hgrow1)
        | fail)
      rw [← Hst.out] at hown1
      have hbc3 := HBC.out.grown hgrow1 HBC.out.size (fun j hj => by cases hj; exact Nat.le_refl _)
      clear hgrow1 Hown Hk Hst c0 c1 c2
      go_wp2_with fail
      exact ⟨⟨k + 1, by omega, by go_num, hown1, hbc3⟩, by simp only [intOf]; omega⟩
    · obtain rfl : k = l.length := by omega
      obtain ⟨-, -, c2, -, -⟩ := cell_of5 ((hbc.block s (Array.getElem?_eq_some_iff.1 HBLK.out).1).trans HBLK.out)
      have HO := Go.Lib.hid hown
      have HB := Go.Lib.hid hbc
      have HG0 := Go.Lib.hid hown.lt
      clear hown hbc hk hlt
      go_wp2_with fail
      clear c2
      go_loopw [4, 34] (fun u i wr => ∃ (k : Nat) (vk : Value), vk = u ∧ k ≤ es.length ∧ i = .int .i64 (k : Int) ∧ OwnE wr w.heap.size vk (keptE (es.take k) l) ∧ wr.ownsMap Tryz.prog 9 (plainElem Tryz.prog 3) w.heap.size l.length (mapN Unit (l.map (·.1)) l.length) ∧ Below w.heap.size w wr) (fun _ i _ => es.length - (intOf i).toNat)
      case atStart => exact ⟨0, _, rfl, by omega, rfl, OwnE.nil _ _, HO.out, HB.out⟩
      case round =>
        obtain ⟨k, vk, rfl, hk, rfl, hke, hmap, hbw⟩ := hrel
        by_cases hlt : k < es.length
        · obtain ⟨b, o, rfl, -, hbs, x0, x1, x2, x3⟩ := (HE.out.re.below hbw).at k hlt
          have hz := HEN.out es[k] (List.getElem_mem hlt)
          have hsn := keptE_snoc (es.take k) es[k] l
          rw [← List.take_succ_eq_append_getElem hlt] at hsn
          have hha := has_any (H := Unit) l es[k].1
          have hkl : (keptE (es.take k) l).length ≤ 32 := Nat.le_trans (List.length_filter_le _ _) (by rw [List.length_take]; omega)
          generalize es[k] = x at *
          obtain ⟨nm, en, ea, ess⟩ := x
          simp only [] at x0 x1 x2 x3 hz hsn hha
          have hal := newB wr (.cells #[.string nm, .int .i64 en, .int .i64 ea, .int .i64 ess] 98)
          obtain ⟨y0, y1, y2, y3⟩ := cell_of4 (heap_alloc_new wr (.cells #[.string nm, .int .i64 en, .int .i64 ea, .int .i64 ess] 98))
          have hkey : keyOf Tryz.prog 9 (.string nm) = some (.string nm.data.toList) := keyOf_string_mk Tryz.underlying9 (by unfold maxLen; omega)
          have hmap2 := hmap.alloc (.cells #[.string nm, .int .i64 en, .int .i64 ea, .int .i64 ess] 98)
          obtain ⟨vlk, ps, hrun, -⟩ := hmap2.look_ok pmlaw Tryz.underlying108 (pmzero _) (plainElem_int (H := Unit) Tryz.underlying3 (by decide : (Lit.int .i64 0).wf = true)) hkey
          rw [hha] at hrun
          have HKE := Go.Lib.hid (show OwnE (wr.alloc (.cells #[.string nm, .int .i64 en, .int .i64 ea, .int .i64 ess] 98)) w.heap.size vk (keptE (es.take k) l) from World.ownsRow.alloc hke _)
          have HM := Go.Lib.hid hmap2
          have HBW := Go.Lib.hid (below_to hbw (Nat.le_refl _) hal)
          have HSN := Go.Lib.hid hsn
          have HKL := Go.Lib.hid hkl
          clear hke hmap hmap2 hbw hal hz hsn hha hkey hkl hk
          cases hany : l.any fun y => decide (y.1 = nm) with
          | true =>
            rw [hany] at hrun HSN
            rw [if_pos rfl, List.append_nil] at HSN
            clear hany
            go_wp2_with fail
            go_roundw
            case rel => exact ⟨k + 1, _, rfl, by omega, by go_num, by rw [HSN.out]; exact HKE.out, HM.out, HBW.out⟩
            case measure => simp only [intOf]; omega
          | false =>
            rw [hany] at hrun HSN
            rw [if_neg (by simp)] at HSN
            clear hany
            have hal2 := newB (wr.alloc (.cells #[.string nm, .int .i64 en, .int .i64 ea, .int .i64 ess] 98)) (.cells #[.string nm, .int .i64 en, .int .i64 ea, .int .i64 ess] 98)
            have HK2 := Go.Lib.hid (show OwnE ((wr.alloc (.cells #[.string nm, .int .i64 en, .int .i64 ea, .int .i64 ess] 98)).alloc (.cells #[.string nm, .int .i64 en, .int .i64 ea, .int .i64 ess] 98)) w.heap.size vk (keptE (es.take k) l) from World.ownsRow.alloc HKE.out _)
            have hre := RE.one (wr.alloc (.cells #[.string nm, .int .i64 en, .int .i64 ea, .int .i64 ess] 98)) nm en ea ess
            unfold entO at hre
            rw [show (wr.alloc (.cells #[.string nm, .int .i64 en, .int .i64 ea, .int .i64 ess] 98)).heap.size = wr.heap.size + 1 from by simp] at hre
            have HRE := Go.Lib.hid hre
            clear hre
            have HB2 := Go.Lib.hid (below_to HBW.out (Nat.le_refl _) hal2)
            have HM2 := Go.Lib.hid (HM.out.alloc (.cells #[.string nm, .int .i64 en, .int .i64 ea, .int .i64 ess] 98))
            have HNM := Go.Lib.hid (own_ne_map HK2.out HM2.out)
            clear hal2
            go_wp2_with (first
              | (with_reducible show wpList _ _ _ (⟨some 50, _, _, _, _, _⟩ :: _) _ _; go_must (refine wpList_append_ents rfl (.tmp 47) (.tmp 49) rfl w.heap.size vk (.slice (some ⟨wr.heap.size + 1, 0, none⟩) 1 1) (keptE (es.take k) l) [(nm, en, ea, ess)] rfl rfl HK2.out HRE.out (by have := HKL.out; simp; omega) HB2.out.size ?_); intro v4 w4 hown4 hg4; have HO4 := Go.Lib.hid hown4; have HB4 := Go.Lib.hid (HB2.out.grown hg4 HB2.out.size HK2.out.row); have HM4 := Go.Lib.hid (HM2.out.kept hg4 HNM.out); clear hown4 hg4)
              | fail)
            go_roundw
            case rel => exact ⟨k + 1, _, rfl, by omega, by go_num, by rw [HSN.out]; exact HO4.out, HM4.out, HB4.out⟩
            case measure => simp only [intOf]; omega
        · obtain rfl : k = es.length := by omega
          rw [List.take_of_length_le (Nat.le_refl _)] at hke
          have HKE := Go.Lib.hid hke
          have HM := Go.Lib.hid hmap
          have HBW := Go.Lib.hid hbw
          clear hke hmap hbw hk hlt
          go_wp2_with fail
          go_loopw [5, 54] (fun u i wr => ∃ (k : Nat) (vw : Value), vw = u ∧ k ≤ l.length ∧ i = .int .i64 (k : Int) ∧ OwnFr wr w.heap.size vw ((wantK l k).map freshP) ∧ OwnE wr w.heap.size vk (keptE es l) ∧ wr.ownsMap Tryz.prog 9 (plainElem Tryz.prog 3) w.heap.size l.length (mapN Unit (l.map (·.1)) l.length) ∧ Below w.heap.size w wr) (fun _ i _ => l.length - (intOf i).toNat)
          case atStart => exact ⟨0, _, rfl, by omega, rfl, World.ownsRow_nil _ _ _ 5, HKE.out, HM.out, HBW.out⟩
          case round =>
            obtain ⟨k, vw, rfl, hk, rfl, hwf, hke, hmap, hbw⟩ := hrel
            by_cases hlt : k < l.length
            · obtain ⟨g, rfl, -, x0, x1, x2⟩ := (HV.out.below hbw).at k hlt
              have hx := HN.out l[k] (List.getElem_mem hlt)
              have htx := (HV.out.2 l[k] (List.getElem_mem hlt))
              obtain ⟨ix, hix, hat, hlast⟩ := last_at (H := Unit) l k hlt
              have hgd : l.getD k default = l[k] := by rw [List.getD, List.getElem?_eq_getElem hlt]; rfl
              have hwk : wantK l (k + 1) = wantK l k ++ (if lastP l k = true ∧ (l.getD k default).2.1 = false then [l.getD k default] else []) := rfl
              rw [hgd] at hwk
              have hwl := wantK_len l k
              generalize l[k] = x at *
              obtain ⟨nm, gn, sl, bs⟩ := x
              simp only [slV] at x0 x1 x2 hx htx hat hwk
              have hal := newB wr (.cells #[.string nm, .bool gn, .slice sl.1 sl.2.1 sl.2.2] 47)
              obtain ⟨y0, y1, y2⟩ := cell_of3 (heap_alloc_new wr (.cells #[.string nm, .bool gn, .slice sl.1 sl.2.1 sl.2.2] 47))
              have hkey : keyOf Tryz.prog 9 (.string nm) = some (.string nm.data.toList) := keyOf_string_mk Tryz.underlying9 (by unfold maxLen; omega)
              have hmap2 := hmap.alloc (.cells #[.string nm, .bool gn, .slice sl.1 sl.2.1 sl.2.2] 47)
              obtain ⟨cx, hrun, hatc, -⟩ := hmap2.lookup_int pmlaw Tryz.underlying108 Tryz.underlying3 (pmzero _) hkey
              obtain rfl : (ix : Int) = cx := by
                have h := (hat (.lit (.int .i64 0))).symm.trans hatc
                injection h with h
                injection h
              have hslen : sl.2.1 = bs.length := by
                obtain ⟨⟨a', c', h1, -⟩, -⟩ := htx
                simp only [Value.slice.injEq] at h1
                exact h1.2.1
              have HWF := Go.Lib.hid (show OwnFr (wr.alloc (.cells #[.string nm, .bool gn, .slice sl.1 sl.2.1 sl.2.2] 47)) w.heap.size vw ((wantK l k).map freshP) from World.ownsRow.alloc hwf _)
              have HKE := Go.Lib.hid (show OwnE (wr.alloc (.cells #[.string nm, .bool gn, .slice sl.1 sl.2.1 sl.2.2] 47)) w.heap.size vk (keptE es l) from World.ownsRow.alloc hke _)
              have HMP := Go.Lib.hid hmap2
              have HBW := Go.Lib.hid (below_to hbw (Nat.le_refl _) hal)
              have HWK := Go.Lib.hid hwk
              have HWL := Go.Lib.hid hwl
              have HX := Go.Lib.hid hx
              have HY := Go.Lib.hid (And.intro y0 y2)
              have HSL := Go.Lib.hid hslen
              clear hwf hke hmap hmap2 hbw hal hwk hwl hx htx hkey hat hatc hgd hk
              cases hcond : decide (lastP l k = true ∧ gn = false) with
              | false =>
                have hno := of_decide_eq_false hcond
                rw [if_neg hno, List.append_nil] at HWK
                by_cases hik : ix = k
                · have hgn : gn = true := by
                    cases gn with
                    | true => rfl
                    | false => exact absurd ⟨hlast.1 hik, rfl⟩ hno
                  subst hik hgn
                  clear hno hlast hcond hslen
                  go_wp2_with fail
                  go_roundw
                  case rel => exact ⟨ix + 1, _, rfl, by omega, by go_num, by rw [HWK.out]; exact HWF.out, HKE.out, HMP.out, HBW.out⟩
                  case measure => simp only [intOf]; omega
                · have hikI : ((ix : Int) == (k : Int)) = false := by simpa using fun h => hik (by omega)
                  clear hno hlast hcond hslen
                  go_wp2_with fail
                  go_roundw
                  case rel => exact ⟨k + 1, _, rfl, by omega, by go_num, by rw [HWK.out]; exact HWF.out, HKE.out, HMP.out, HBW.out⟩
                  case measure => simp only [intOf]; omega
              | true =>
                obtain ⟨hla, rfl⟩ := of_decide_eq_true hcond
                rw [if_pos ⟨hla, rfl⟩] at HWK
                obtain rfl := hlast.2 hla
                clear hla hlast hcond hslen
                have CL := Go.Lib.hid fun W => clone_c nm W (by have := HX.out; omega)
                obtain ⟨wa, hwa⟩ : ∃ wa, wa = wr.alloc (.cells #[.string nm, .bool false, .slice sl.1 sl.2.1 sl.2.2] 47) := ⟨_, rfl⟩
                obtain ⟨ub, hub⟩ : ∃ ub, ub = wr.heap.size := ⟨_, rfl⟩
                rw [← hwa] at HWF HKE HMP HBW HY
                rw [← hub] at HY
                have HCC := Go.Lib.hid fun (W : World) (hW : Below wa.heap.size wa W) => (show W.cell? ⟨ub, 0, none⟩ = some (.string nm) ∧ W.cell? ⟨ub, 2, none⟩ = some (slV sl) from ⟨keptC HY.out.1 hW, keptC HY.out.2 hW⟩)
                have HWA := Go.Lib.hid (And.intro hwa hub)
                obtain ⟨m, hm⟩ : ∃ m, m = bs.length := ⟨_, rfl⟩
                have HM1 := Go.Lib.hid hm
                have HMM := Go.Lib.hid (show sl.2.1 = m from HSL.out.trans hm.symm)
                have H0 := Go.Lib.hid (show CSp wa nm m [] wa.drew from ⟨rfl, rfl, rfl, Nat.le_refl _, fun _ _ => rfl⟩)
                go_upto_region 18 with (fail)
                rw [← hwa, ← hub]
                clear y0 y1 y2 x0 x1 x2 hrun hwa hub hm
                refine wp_region_chain (by kernel_rfl) (VSp ub m nm sl) [7, 8] (CSp wa nm m) (by decide +kernel) (by decide +kernel) (by rfl) (by decide +kernel) [70, 71, 72, 73, 74, 75, 76, 15] (by rfl) (H0.out) ?_ ?_ ?_
                · intro i o ho hnc a w6 vs hC hlen hg
                  have hm75 := HMM.out
                  have hcc := HCC.out w6 (CSp.bel hC)
                  obtain ⟨c0, c2⟩ := hcc
                  match i, ho with
                  | 0, ho =>
                    obtain rfl := Option.some.inj ho
                    have h14 := given_old hg 14 (by decide +kernel)
                    clear hg
                    exact st_yield ho (wanted_none rfl) (.pointer (some ⟨ub, 0, none⟩)) w6 (by simp [execOp, Act.eval, h14, go_sem]) ⟨_, rfl, hC, by rintro t' ⟨⟩; rfl⟩
                  | 1, ho =>
                    obtain rfl := Option.some.inj ho
                    obtain ⟨_, h70, rfl⟩ := given_fed hg 70 (by decide +kernel)
                    clear hg
                    exact st_yield ho (wanted_none rfl) (.string nm) w6 (by simp [execOp, Act.eval, h70, go_sem, c0]) ⟨_, rfl, hC, by rintro t' ⟨⟩; rfl⟩
                  | 2, ho =>
                    obtain rfl := Option.some.inj ho
                    obtain ⟨_, h71, rfl⟩ := given_fed hg 71 (by decide +kernel)
                    clear hg
                    exact st_enter (w1 := w6) ho (wanted_none rfl) 45 #[.string nm] (by simp [execOp, Act.eval, h71, resolve, go_sem]) ((CL.out _).mono (by rintro e w7 ⟨rfl, hb7⟩; exact ⟨_, rfl, _, rfl, hC.mono hb7, by rintro t' ⟨⟩; rfl⟩))
                  | 3, ho =>
                    obtain rfl := Option.some.inj ho
                    have h14 := given_old hg 14 (by decide +kernel)
                    clear hg
                    exact st_yield ho (wanted_none rfl) (.pointer (some ⟨ub, 2, none⟩)) w6 (by simp [execOp, Act.eval, h14, go_sem]) ⟨_, rfl, hC, by rintro t' ⟨⟩; rfl⟩
                  | 4, ho =>
                    obtain rfl := Option.some.inj ho
                    obtain ⟨_, h73, rfl⟩ := given_fed hg 73 (by decide +kernel)
                    clear hg
                    exact st_yield ho (wanted_none rfl) (slV sl) w6 (by simp [execOp, Act.eval, h73, go_sem, c2]) ⟨_, rfl, hC, by rintro t' ⟨⟩; rfl⟩
                  | 5, ho =>
                    obtain rfl := Option.some.inj ho
                    obtain ⟨_, h74, rfl⟩ := given_fed hg 74 (by decide +kernel)
                    clear hg
                    exact st_yield ho (wanted_none rfl) (.int .i64 (m : Int)) w6 (by simp [execOp, Act.eval, h74, go_sem, hm75, slV]) ⟨_, rfl, hC, by rintro t' ⟨⟩; rfl⟩
                  | 6, ho =>
                    obtain rfl := Option.some.inj ho
                    obtain ⟨_, h72, rfl⟩ := given_fed hg 72 (by decide +kernel)
                    obtain ⟨_, h75, rfl⟩ := given_fed hg 75 (by decide +kernel)
                    clear hg
                    exact st_yield ho (wanted_none rfl) (.agg #[.string nm, .int .i64 (m : Int), .int .i64 0, .int .i64 0]) w6 (by simp [execOp, Act.eval, h72, h75, go_sem]) ⟨_, rfl, hC, by rintro t' ⟨⟩; rfl⟩
                  | 7, ho =>
                    exact absurd hnc (by decide)
                  | 8, ho =>
                    exact absurd hnc (by decide)
                  | n + 9, ho => simp at ho
                · intro j i o hj ho a w6 vs hvl hC hsl hlen hg
                  match j, hj with
                  | 0, hj =>
                    obtain rfl : 7 = i := Option.some.inj hj
                    obtain rfl := Option.some.inj ho
                    clear hg
                    obtain rfl := sl0 hvl
                    exact st_yield ho (wanted_none rfl) (.pointer (some ⟨w6.heap.size, 0, none⟩)) (w6.alloc (.cells #[.string ⟨#[]⟩, .int .i64 0, .int .i64 0, .int .i64 0] 98)) (by simp [execOp, go_sem]) ⟨_, rfl, ⟨w6.heap.size, rfl, hC.size, heap_alloc_new w6 _, below_to hC (Nat.le_refl _) (newB w6 _)⟩, by rintro t' ⟨⟩; trivial⟩
                  | 1, hj =>
                    obtain rfl : 8 = i := Option.some.inj hj
                    obtain rfl := Option.some.inj ho
                    obtain ⟨_, h76, rfl⟩ := given_fed hg 76 (by decide +kernel)
                    clear hg
                    obtain ⟨x0, rfl⟩ := sl1 hvl
                    obtain ⟨b, rfl, hb, hk, hbw⟩ := hC
                    have h15 : a.tmps[15]? = some (.pointer (some ⟨b, 0, none⟩)) := hsl 0 7 _ 15 (by simp) rfl rfl rfl
                    exact st_list ho (wanted_none rfl) fun Q' hQ => wpList_store_row rfl 98 (.tmp 15) (.tmp 76) rfl b #[.string nm, .int .i64 (m : Int), .int .i64 0, .int .i64 0] (by simp [Act.eval, h15]) (by simp [Act.eval, h76]) 98 _ hk (by kernel_rfl) rfl (all4 ..) (wpList_nil (hQ _ _ ⟨_, rfl, ⟨b, rfl, hb, setRow_heap _ _ _ _ _ (0, 0) hk, below_setRow hbw _ _ hb⟩, by rintro t' ⟨⟩⟩))
                  | n + 2, hj => simp at hj
                · intro f w6 vs hvl hC hsl hV
                  obtain ⟨x0, x1, rfl⟩ := sl2 hvl
                  obtain ⟨b, rfl, hb, hk, hbw6⟩ := hC
                  have h15 := hsl 0 7 _ 15 (by simp) rfl rfl rfl
                  have h15 : f 15 = .pointer (some ⟨b, 0, none⟩) := (Option.some.inj h15).symm
                  have hcc := HCC.out w6 hbw6
                  obtain ⟨e0, e1, e2, e3⟩ := cell_of4 hk
                  obtain ⟨z0, z2⟩ := hcc
                  simp only [slV] at z2
                  rw [HMM.out] at z2
                  have hal := newB w6 (.cells #[.string nm, .int .i64 (m : Int), .int .i64 0, .int .i64 0, .slice sl.1 m sl.2.2] 111)
                  have HBW6 := Go.Lib.hid (below_to (below_to HBW.out (Nat.le_refl _) hbw6) (Nat.le_refl _) hal)
                  have hw6 := below_to hbw6 (Nat.le_refl _) hal
                  have HWF6 := Go.Lib.hid (show OwnFr (w6.alloc (.cells #[.string nm, .int .i64 (m : Int), .int .i64 0, .int .i64 0, .slice sl.1 m sl.2.2] 111)) w.heap.size vw ((wantK l ix).map freshP) from row_keep HWF.out fun k _ _ _ h5 => hw6.block k (Array.getElem?_eq_some_iff.1 h5).1)
                  have HKE6 := Go.Lib.hid (HKE.out.below hw6)
                  have HMP6 := Go.Lib.hid (HMP.out.kept (grow_below (row := none) hw6) (by simp))
                  have HNW := Go.Lib.hid (show (w6.alloc (.cells #[.string nm, .int .i64 (m : Int), .int .i64 0, .int .i64 0, .slice sl.1 m sl.2.2] 111)).heap[w6.heap.size]? = some (.cells (efr ((nm, (m : Int), 0, 0), (sl.1, m, sl.2.2))).toArray 111) from heap_alloc_new w6 _)
                  have HNK := Go.Lib.hid (own_ne_map HWF6.out HMP6.out)
                  have HNE := Go.Lib.hid (rows_apart (by decide : 98 ≠ 111) HKE6.out HWF6.out)
                  have HLW := Go.Lib.hid (show ((wantK l ix).map freshP).length ≤ 1000 from by rw [List.length_map]; have := HWL.out; omega)
                  have HSN := Go.Lib.hid (show (wantK l (ix + 1)).map freshP = (wantK l ix).map freshP ++ [((nm, (m : Int), 0, 0), (sl.1, m, sl.2.2))] from by
                    rw [HWK.out, List.map_append]
                    have hsl : sl = (sl.1, m, sl.2.2) := by rw [← HMM.out]
                    show _ ++ [freshP (nm, false, sl, bs)] = _
                    unfold freshP
                    have hm := HM1.out
                    rw [hm]
                    simp only
                    rw [hm] at hsl
                    rw [← hsl])
                  clear hsl hV hbw6 hk hal hw6 hb CL HCC HWK HSL
                  unfold putAll
                  simp only [List.foldl]
                  simp only [h15]
                  go_simp
                  clear h15
                  go_wp2_with (first
                    | (with_reducible show wpList _ _ _ (⟨some 83, _, _, _, _, _⟩ :: _) _ _; go_must (refine wpList_append_fresh rfl (.tmp 77) (.tmp 82) rfl w.heap.size vw ((wantK l ix).map freshP) ((nm, (m : Int), 0, 0), (sl.1, m, sl.2.2)) w6.heap.size (0, 0) rfl rfl HWF6.out HNW.out HLW.out HBW6.out.size ?_); intro v4 w4 hown4 hg4; have HO4 := Go.Lib.hid hown4; have HG4 := Go.Lib.hid hg4; clear hown4 hg4)
                    | fail)
                  have HF := Go.Lib.hid (And.intro (World.ownsRow.kept HKE6.out HG4.out HNE.out) (And.intro (HMP6.out.kept HG4.out HNK.out) (HBW6.out.grown HG4.out HBW6.out.size (World.ownsRow.row' HWF6.out))))
                  go_roundw
                  case rel => exact ⟨ix + 1, _, rfl, by omega, by go_num, by rw [HSN.out]; exact HO4.out, HF.out.1, HF.out.2.1, HF.out.2.2⟩
                  case measure => simp only [intOf]; omega
            · obtain rfl : k = l.length := by omega
              have HF := Go.Lib.hid (And.intro hke (And.intro hwf hbw))
              clear hke hwf hmap hbw
              go_wp2_with fail
              go_ret2
              exact ⟨_, _, rfl, HF.out.1, HF.out.2.1, HF.out.2.2⟩
end

end Go.Proofs.YtnalokjnbccjnaaGreatDoor

namespace Go.Proofs.YtnalokjnbccjnaaGreatDoor
open Go.RowKit

/-- Rising by their names, or alike. -/
def RiseN (l : List EntT) : Prop := ∀ i j (hi : i < l.length) (hj : j < l.length), i < j → ltE l[j] l[i] = false

/-- What prepare has laid: its plan at block b10. -/
structure PR (w0 w1 w : World) (rf rl n : Nat) (vf vl : Value) (U : List Nat) (vw : Value) (F : List FreshT) (b8 b10 : Nat) (v0 v1 v2 : Value) (X : List EntT) (T : List UInt8) : Prop where
  ro : RO w w1.heap.size rf rl n vf vl U
  res : w.heap[w1.heap.size]? = some (.cells #[.slice none 0 0, .slice none 0 0, .slice none 0 0] 80)
  rm : w.heap[b8]? = some (.cells #[.pointer (some ⟨rf, 0, none⟩), .pointer (some ⟨rl, 0, none⟩)] 92)
  pl : w.heap[b10]? = some (.cells #[v0, v1, v2] 80)
  row : OwnFr w w0.heap.size vw F
  files : OwnE w w0.heap.size v0 X
  text : Own 5 w w0.heap.size v1 T
  bel : Below w0.heap.size w0 w
  b : b10 ≠ w1.heap.size
  b0 : w0.heap.size ≤ b10
  w01 : w0.heap.size ≤ w1.heap.size
section
variable {w0 w1 w w' : World} {rf rl n : Nat} {vf vl : Value} {U V : List Nat} {vw : Value} {F : List FreshT} {b8 b10 : Nat} {v0 v1 v2 : Value} {X X' : List EntT} {T : List UInt8}
theorem PR.below (h : PR w0 w1 w rf rl n vf vl U vw F b8 b10 v0 v1 v2 X T) (hb : Below w.heap.size w w') : PR w0 w1 w' rf rl n vf vl U vw F b8 b10 v0 v1 v2 X T :=
  ⟨h.ro.below hb, keptR h.res hb, keptR h.rm hb, keptR h.pl hb, row_keep h.row fun k _ _ _ hk => hb.block k (Array.getElem?_eq_some_iff.1 hk).1, h.files.below hb, h.text.below hb, below_to h.bel (Nat.le_refl _) hb, h.b, h.b0, h.w01⟩
theorem PR.drew (h : PR w0 w1 w rf rl n vf vl U vw F b8 b10 v0 v1 v2 X T) : PR w0 w1 w.drew rf rl n vf vl U vw F b8 b10 v0 v1 v2 X T := h.below ⟨rfl, rfl, rfl, Nat.le_refl _, fun _ _ => rfl⟩
/-- The rooms are turned. -/
theorem PR.rooms (h : PR w0 w1 w rf rl n vf vl U vw F b8 b10 v0 v1 v2 X T) (hr : RO w' w1.heap.size rf rl n vf vl V) (ht : TF 4 w w') (hb : Below w1.heap.size w w') : PR w0 w1 w' rf rl n vf vl V vw F b8 b10 v0 v1 v2 X T :=
  ⟨hr, ht.cells h.res (by decide), ht.cells h.rm (by decide), ht.cells h.pl (by decide), ht.row h.row (by decide), ht.row h.files (by decide), ht.row h.text (by decide), h.bel.trans (hb.mono h.w01), h.b, h.b0, h.w01⟩
/-- A row of files grows, or is sorted. -/
theorem PR.filesTo (h : PR w0 w1 w rf rl n vf vl U vw F b8 b10 v0 v1 v2 X T) {u : Value} (ho : OwnE w' w0.heap.size u X') (hg : w.grownBy w' v0.ownBlock) :
    RO w' w1.heap.size rf rl n vf vl U ∧ w'.heap[w1.heap.size]? = some (.cells #[.slice none 0 0, .slice none 0 0, .slice none 0 0] 80) ∧ w'.heap[b8]? = some (.cells #[.pointer (some ⟨rf, 0, none⟩), .pointer (some ⟨rl, 0, none⟩)] 92) ∧ w'.heap[b10]? = some (.cells #[v0, v1, v2] 80) ∧ OwnFr w' w0.heap.size vw F ∧ OwnE w' w0.heap.size u X' ∧ Own 5 w' w0.heap.size v1 T ∧ Below w0.heap.size w0 w' := by
  have ht : TF 98 w w' := TF.of_grown h.files hg
  exact ⟨h.ro.keptRow h.files (by decide) (by decide) hg, ht.cells h.res (by decide), ht.cells h.rm (by decide), ht.cells h.pl (by decide), ht.row h.row (by decide), ho, ht.row h.text (by decide), h.bel.grown hg h.bel.size h.files.row⟩
/-- A field of the plan is stored. -/
theorem RO.setCell {W : World} {B k o : Nat} {cs : Array Value} {t : TypeId} {fr : Nat × Nat} (h : RO W B rf rl n vf vl U) (hk : W.heap[k]? = some (.cells cs t fr)) (h1 : t ≠ 4) (h2 : t ≠ 133) (u : Value) : RO (W.setCell ⟨k, o, none⟩ u) B rf rl n vf vl U :=
  ⟨h.f.keptBlk hk h1 h2 (grow_set (World.grownBy.refl _ _) _ _), h.l.keptBlk hk h1 h2 (grow_set (World.grownBy.refl _ _) _ _), h.ap, h.n0, h.n1⟩
theorem PR.ne (h : PR w0 w1 w rf rl n vf vl U vw F b8 b10 v0 v1 v2 X T) {t : TypeId} {cs : Array Value} {fr : Nat × Nat} {k : Nat} (hk : w.heap[k]? = some (.cells cs t fr)) (ht : t ≠ 80) : k ≠ b10 := fun e => by
  subst e
  rw [h.pl] at hk
  simp only [Option.some.injEq, Obj.cells.injEq] at hk
  exact ht hk.2.1.symm
theorem PR.sorted (h : PR w0 w1 w rf rl n vf vl U vw F b8 b10 v0 v1 v2 X T) (ho : OwnE w' w0.heap.size v0 X') (hg : w.grownBy w' v0.ownBlock) : PR w0 w1 w' rf rl n vf vl U vw F b8 b10 v0 v1 v2 X' T := by
  obtain ⟨a1, a2, a3, a4, a5, a6, a7, a8⟩ := h.filesTo ho hg
  exact ⟨a1, a2, a3, a4, a5, a6, a7, a8, h.b, h.b0, h.w01⟩
theorem PR.set0 (h : PR w0 w1 w rf rl n vf vl U vw F b8 b10 v0 v1 v2 X T) {u : Value} (ho : OwnE w w0.heap.size u X') : PR w0 w1 (w.setCell ⟨b10, 0, none⟩ u) rf rl n vf vl U vw F b8 b10 u v1 v2 X' T :=
  ⟨h.ro.setCell h.pl (by decide) (by decide) u, (Below.heap_setCell _ _ _ _ (Ne.symm h.b)).trans h.res, (Below.heap_setCell _ _ _ _ (h.ne h.rm (by decide))).trans h.rm, heap_set h.pl 0 u, row_set h.row h.pl (by decide) _ _, row_set ho h.pl (by decide) _ _, row_set h.text h.pl (by decide) _ _, h.bel.setCell (p := ⟨b10, 0, none⟩) h.b0 _, h.b, h.b0, h.w01⟩
theorem PR.set1 (h : PR w0 w1 w rf rl n vf vl U vw F b8 b10 v0 v1 v2 X T) {u : Value} {T' : List UInt8} (ho : Own 5 w w0.heap.size u T') : PR w0 w1 (w.setCell ⟨b10, 1, none⟩ u) rf rl n vf vl U vw F b8 b10 v0 u v2 X T' :=
  ⟨h.ro.setCell h.pl (by decide) (by decide) u, (Below.heap_setCell _ _ _ _ (Ne.symm h.b)).trans h.res, (Below.heap_setCell _ _ _ _ (h.ne h.rm (by decide))).trans h.rm, heap_set h.pl 1 u, row_set h.row h.pl (by decide) _ _, row_set h.files h.pl (by decide) _ _, row_set ho h.pl (by decide) _ _, h.bel.setCell (p := ⟨b10, 1, none⟩) h.b0 _, h.b, h.b0, h.w01⟩
theorem PR.filesSet (h : PR w0 w1 w rf rl n vf vl U vw F b8 b10 v0 v1 v2 X T) {u : Value} (ho : OwnE w' w0.heap.size u X') (hg : w.grownBy w' v0.ownBlock) : PR w0 w1 (w'.setCell ⟨b10, 0, none⟩ u) rf rl n vf vl U vw F b8 b10 u v1 v2 X' T := by
  obtain ⟨a1, a2, a3, a4, a5, a6, a7, a8⟩ := h.filesTo ho hg
  have hne : ∀ {t : TypeId} {cs : Array Value} {fr : Nat × Nat} {k : Nat}, w'.heap[k]? = some (.cells cs t fr) → t ≠ 80 → k ≠ b10 := fun hk ht e => by
    subst e
    rw [a4] at hk
    simp only [Option.some.injEq, Obj.cells.injEq] at hk
    exact ht hk.2.1.symm
  exact ⟨a1.setCell a4 (by decide) (by decide) u, (Below.heap_setCell _ _ _ _ (Ne.symm h.b)).trans a2, (Below.heap_setCell _ _ _ _ (hne a3 (by decide))).trans a3, heap_set a4 0 u, row_set a5 a4 (by decide) _ _, row_set a6 a4 (by decide) _ _, row_set a7 a4 (by decide) _ _, a8.setCell (p := ⟨b10, 0, none⟩) h.b0 _, h.b, h.b0, h.w01⟩
end

end Go.Proofs.YtnalokjnbccjnaaGreatDoor

namespace Go.Proofs.YtnalokjnbccjnaaGreatDoor
open Go.RowKit

/-- The numbers of a head, as decodeHead gathers them. -/
def headL (size : Nat) (sum : Int) (ls : List Nat) : List Int := (size : Int) :: sum :: ls.map fun (i : Nat) => (i : Int)
def z64 (l : List Int) : List Value := l.map fun x => Value.int .i64 x
theorem z64_length (l : List Int) : (z64 l).length = l.length := by simp [z64]
theorem z64_snoc (l : List Int) (x : Int) : z64 (l ++ [x]) = z64 l ++ [.int .i64 x] := by simp [z64]
theorem z64_at (l : List Int) (i : Nat) (h : i < l.length) : (z64 l)[i]'(by rw [z64_length]; exact h) = .int .i64 l[i] := by simp [z64]
def numsB (l : List Int) : List UInt8 := l.flatMap numP
theorem numsB_cons (x : Int) (l : List Int) : numsB (x :: l) = numP x ++ numsB l := by simp [numsB]
theorem headB_nums (size : Nat) (sum : Int) (ls : List Nat) : headB size sum ls = numsB (headL size sum ls) := by
  unfold headB headL
  rw [numsB_cons, numsB_cons, List.append_assoc]
  congr 2
  unfold putL numsB
  rw [List.flatMap_map]
theorem headL_length (size : Nat) (sum : Int) (ls : List Nat) : (headL size sum ls).length = ls.length + 2 := by simp [headL]
theorem headL_ok {size : Nat} {sum : Int} {ls : List Nat} (h1 : size ≤ 100000000) (h2 : 0 ≤ sum ∧ sum < 4294967296) (h4 : ∀ i ∈ ls, i < 8192) : ∀ x ∈ headL size sum ls, 0 ≤ x ∧ x ≤ 9223372036854775807 := by
  intro x hx
  simp only [headL, List.mem_cons, List.mem_map] at hx
  rcases hx with rfl | rfl | ⟨i, hi, rfl⟩
  · omega
  · omega
  · have := h4 i hi; omega
theorem headL_tail (size : Nat) (sum : Int) (ls : List Nat) (i : Nat) (h : i < ls.length) : (headL size sum ls)[2 + i]? = some (ls[i] : Int) := by
  unfold headL
  rw [show 2 + i = i + 1 + 1 from by omega, List.getElem?_cons_succ, List.getElem?_cons_succ, List.getElem?_map, List.getElem?_eq_getElem h]
  rfl

theorem run_size64 (w : World) : (sizeOf (Tryz.prog.elem 157)).run Tryz.prog w = .ok 1 w := by
  have he : Tryz.prog.elem 157 = 2 := by kernel_rfl
  obtain ⟨i, hi, hz, hsize, hby⟩ := info_parts infoInt64
  rw [he]
  simp [sizeOf, typeInfo, hi, hsize]
theorem cut_l64 (g n c o : Nat) (h : o ≤ n) (_hc : n ≤ c) : ∃ a, (∀ W, (Instr.slice 157 (.slice (some ⟨g, 0, none⟩) n c) (some (.int .i64 (o : Int))) none none).run Tryz.prog W = .ok (.slice a (n - o) (c - o)) W) ∧ (o < c → a = some ⟨g, o, none⟩) := by
  have he : Tryz.prog.underlying 157 = some (.slice (Tryz.prog.elem 157)) := by
    rw [show Tryz.prog.elem 157 = 2 by kernel_rfl]; exact Tryz.underlying157
  have hadd : (⟨g, 0, none⟩ : Addr).add (o * 1) = ⟨g, o, none⟩ := by unfold Addr.add; split <;> simp_all
  refine ⟨if c = o then some ⟨g, 0, none⟩ else some ⟨g, o, none⟩, fun W => ?_, fun hlt => ?_⟩
  · have hr := run_slice_l (P := Tryz.prog) W 157 (some ⟨g, 0, none⟩) n c he .i64 (o : Int) (by omega) (by omega)
    rw [hr, run_size64]
    simp only [Result.andThen, sliced, Int.toNat_natCast]
    by_cases h0 : c = o
    · rw [if_pos h0, if_pos h0]
    · rw [if_neg h0, if_neg h0, Option.map_some, hadd]
  · rw [if_neg (by omega)]

/-- 'b[i:]', in whatever world b reads. -/
theorem wpList_slice_all {P : Program} {ops : Array Oper} {rest : List Oper} {o : Oper} {a : Act} {w : World} {Q : Exit → Act → World → Prop} (hgd : o.guard = none) (x lo : Operand) (t : TypeId)
    (ho : o.op = .slice t x (some lo) none none) (e : TypeId) (ht : P.underlying t = some (.slice e)) (hinfo : (P.info? e).map (fun i => (i.zero, i.size, i.bytes)) = some (some (.int .u8 0), 1, 1))
    (v : Value) (l : List UInt8) (kl : IntKind) (L : Int) (i : Nat) (hx : a.eval x = v) (hlo : a.eval lo = .int kl L) (hL : L = (i : Int)) (hrb : RB w v l) (hi : i ≤ l.length)
    (hK : ∀ v', (∀ W, RB W v l → RB W v' (l.drop i)) → wpList P ops Q rest (a.put o.dst v') w) : wpList P ops Q (o :: rest) a w := by
  obtain ⟨ad, cap, rfl, h1, h2, h3, h4⟩ := hrb
  obtain ⟨ht', hs⟩ := run_sizeOf (P := P) (w := w) ht hinfo
  subst hL
  have hr := run_slice_l (P := P) w t ad l.length cap ht' kl (i : Int) (by omega) (by omega)
  rw [hs] at hr
  simp only [Int.toNat_natCast, Result.andThen] at hr
  have hc : ∀ W, RB W (.slice ad l.length cap) l → RB W (sliced ad i l.length cap 1) (l.drop i) := fun W h => by
    have := h.cut i l.length hi (Nat.le_refl _)
    rwa [List.take_length] at this
  exact wpList_gives hgd _ _ (by simp [execOp, ho, hx, hlo, hr, run_sliceAt_slice w t _ _ _ _ ht', Result.andThen]) (hK _ hc)

theorem rv_sl {w : World} {v : Value} {xs : List Value} (h : RV w v xs) : ∃ a n c, v = .slice a n c := by
  obtain ⟨a, c, hv, -⟩ := h.form
  exact ⟨a, _, c, hv⟩
theorem cell_two {w : World} {k : Nat} {a b u : Value} {t : TypeId} {fr : Nat × Nat} (h : w.heap[k]? = some (.cells #[a, b, u] t fr)) : w.cell? ⟨k, 2, none⟩ = some u := by rw [cell_of_row w k 2 _ _ _ h]; rfl

set_option maxHeartbeats 2000000 in
set_option maxRecDepth 100000 in
theorem odecode_c {w : World} {v : Value} {size : Nat} {sum : Int} {ls : List Nat} (hv : RB w v (headB size sum ls)) (h1 : size ≤ 896) (h2 : 0 ≤ sum ∧ sum < 4294967296) (h3 : ls.length = secs size) (h4 : ∀ i ∈ ls, i < 8192) :
    Calls Tryz.prog 65 #[v] w fun e w' => ∃ vl, e = .returned (.tuple #[.agg #[.int .i64 (size : Int), .int .i64 sum, vl], .bool true]) ∧ OwnV 3 w' w.heap.size vl (zi .i64 ls) ∧ Below w.heap.size w w' := by
  rw [headB_nums] at hv
  have HN := Go.Lib.hid (headL_ok (size := size) (by omega) h2 h4)
  have HT := Go.Lib.hid (headL_tail size sum ls)
  have hlen := headL_length size sum ls
  have H0 := Go.Lib.hid (show (headL size sum ls)[0]? = some (size : Int) from rfl)
  have H1 := Go.Lib.hid (show (headL size sum ls)[1]? = some sum from rfl)
  have hls : ls.length ≤ 14 := by rw [h3]; unfold secs; omega
  have H3 := Go.Lib.hid h3
  have H4 := Go.Lib.hid h4
  have hb0 := Go.Lib.hid (newB w (.cells #[.int .i64 0, .int .i64 0, .slice none 0 0] 69))
  have hnew := Go.Lib.hid (heap_alloc_new w (.cells #[.int .i64 0, .int .i64 0, .slice none 0 0] 69))
  have HV := Go.Lib.hid hv
  obtain ⟨av, cv, rfl, -⟩ := hv
  generalize hH : headL size sum ls = H at *
  have HH := Go.Lib.hid hH
  clear hH h3 h4
  go_enter Tryz.func65, Tryz.ntmps65
  go_wp2_with fail
  go_loopw [0, 4] (fun bv lv wr => ∃ (k : Nat) (u x : Value), u = bv ∧ x = lv ∧ k ≤ H.length ∧ RB w u (numsB (H.drop k)) ∧ OwnV 2 wr (w.heap.size + 1) x (z64 (H.take k)) ∧ wr.heap[w.heap.size]? = some (.cells #[.int .i64 0, .int .i64 0, .slice none 0 0] 69) ∧ Below w.heap.size w wr ∧ w.heap.size + 1 ≤ wr.heap.size) (fun bv _ _ => (match bv with | .slice _ n _ => n | _ => 0))
  case atStart => exact ⟨0, _, _, rfl, rfl, by omega, HV.out, OwnV.nil _ _ _, hnew.out, hb0.out, by simp⟩
  case round =>
    obtain ⟨k, u, x, rfl, rfl, hk, hrb, hown, hblk, hbw, hsz⟩ := hrel
    by_cases hlt : k < H.length
    · have hx := HN.out H[k] (List.getElem_mem hlt)
      have hdr : H.drop k = H[k] :: H.drop (k + 1) := List.drop_eq_getElem_cons hlt
      have hsn := Go.Lib.hid (show z64 (H.take (k + 1)) = z64 (H.take k) ++ [.int .i64 H[k]] from by rw [List.take_succ_eq_append_getElem hlt, z64_snoc])
      have hln : (z64 (H.take k)).length ≤ 16 := by rw [z64_length, List.length_take]; omega
      rw [hdr, numsB_cons] at hrb
      have C := Go.Lib.hid (get_c u _ wr (hrb.below hbw))
      unfold gv at C
      have hg := getB_put H[k] (by omega) hx.2 (numsB (H.drop (k + 1)))
      have hpl := numP_len H[k] (by omega) hx.2
      have hgd := Go.Lib.hid (show (numP H[k] ++ numsB (H.drop (k + 1))).drop (numP H[k]).length = numsB (H.drop (k + 1)) from by simp)
      have hlen2 : (numP H[k] ++ numsB (H.drop (k + 1))).length = (numP H[k]).length + (numsB (H.drop (k + 1))).length := List.length_append
      unfold numP at C hrb hpl hgd hlen2
      rw [hg] at C
      have HR := Go.Lib.hid hrb
      obtain ⟨a, c, rfl, hc1, hc2, -⟩ := hrb
      generalize H[k] = y at *
      generalize Go.Lib.uvarint (Go.Lib.zigzag y) ++ numsB (H.drop (k + 1)) = R at *
      generalize (Go.Lib.uvarint (Go.Lib.zigzag y)).length = q at *
      have hown3 := Go.Lib.hid (hown.alloc (.cells #[.int .i64 y] 2))
      have hrv := Go.Lib.hid (RV.one wr 2 (.int .i64 y))
      have hbw3 := Go.Lib.hid (hbw.alloc hbw.size (.cells #[.int .i64 y] 2))
      have hln1 := Go.Lib.hid (show ((z64 (H.take k)).length + [Value.int .i64 y].length) * 8 ≤ 140737488355328 from by simp only [List.length_cons, List.length_nil]; omega)
      have hln2 := Go.Lib.hid (show (z64 (H.take k)).length + [Value.int .i64 y].length ≤ 140737488355328 from by have := hln1.out; omega)
      have HB3 := Go.Lib.hid (((newB wr (.cells #[.int .i64 y] 2)).block w.heap.size (Array.getElem?_eq_some_iff.1 hblk).1).trans hblk)
      have HNE := Go.Lib.hid (own_ne hown hblk (by decide))
      have hpos : (0 : Int) < (R.length : Int) := by omega
      have hqr : q ≤ R.length := by omega
      have HQ := Go.Lib.hid (And.intro hqr (And.intro hpl hlen2))
      have HS := Go.Lib.hid hsz
      clear hown hbw hblk hg hdr hln hlen2 hpl hqr hx hsz
      go_wp2_with fail
      refine C.out.mono ?_
      rintro e w1 ⟨rfl, rfl⟩
      go_wp2_with (first
        | (with_reducible show wpList _ _ _ (⟨some 26, _, _, _, _, _⟩ :: _) _ _; go_must (refine wpList_append_RV rfl (.tmp 23) (.tmp 25) 157 rfl (w.heap.size + 1) 2 Tryz.underlying157 (.int .i64 0) 8 rfl infoInt64 x (.slice (some ⟨wr.heap.size, 0, none⟩) 1 1) (z64 (H.take k)) [.int .i64 y] rfl rfl hown3.out hrv.out (one_int _) hln1.out hln2.out (by have := HS.out; simp; omega) ?_); intro v4 w4 hown4 hg4; have hb4 := Go.Lib.hid (hbw3.out.grown hg4 hbw3.out.size (fun j hj => by have := hown3.out.row j hj; omega)); have hk4 := Go.Lib.hid ((hg4.block w.heap.size (Array.getElem?_eq_some_iff.1 HB3.out).1 HNE.out).trans HB3.out); have HO4 := Go.Lib.hid hown4; have hs4 := Go.Lib.hid (show w.heap.size + 1 ≤ w4.heap.size from by have h1 := hg4.size; have h2 := HS.out; simp at h1; omega); clear hown4 hg4)
        | (with_reducible show wpList _ _ _ (⟨some 29, _, _, _, _, _⟩ :: _) _ _; go_must (refine wpList_slice_all rfl (.tmp 27) (.tmp 28) 45 rfl 5 Tryz.underlying45 info8 (.slice a R.length c) R .i64 _ q rfl rfl rfl (HR.out.below hb4.out) HQ.out.1 ?_); intro v5 hv5; have HV5 := Go.Lib.hid (hv5 _ HR.out); clear hv5)
        | fail)
      go_roundw
      case rel => exact ⟨k + 1, _, _, rfl, rfl, by omega, by rw [← hgd.out]; exact HV5.out, by rw [hsn.out]; exact HO4.out, hk4.out, hb4.out, hs4.out⟩
      case measure =>
        obtain ⟨a5, c5, he, -⟩ := HV5.out
        have := HQ.out
        rw [he, List.length_drop]
        simp only
        omega
    · obtain rfl : k = H.length := by omega
      rw [List.drop_of_length_le (Nat.le_refl _), show numsB [] = [] from rfl] at hrb
      rw [List.take_of_length_le (Nat.le_refl _)] at hown
      obtain ⟨a, c, rfl, -⟩ := hrb
      obtain ⟨g, cap, rfl, hg, hgB, hcell⟩ := hown.open (by rw [z64_length, hlen]; omega)
      have c0 := hcell 0 (by rw [z64_length]; omega)
      have c1 := hcell 1 (by rw [z64_length]; omega)
      rw [z64_at _ _ (by omega)] at c0 c1
      have e0 : H[0]'(by omega) = (size : Int) := by have := H0.out; rw [List.getElem?_eq_getElem (by omega)] at this; exact Option.some.inj this
      have e1 : H[1]'(by omega) = sum := by have := H1.out; rw [List.getElem?_eq_getElem (by omega)] at this; exact Option.some.inj this
      rw [e0] at c0
      rw [e1] at c1
      rw [z64_length]
      have HC := Go.Lib.hid (show ∀ i (h : i < ls.length), wr.cell? ⟨g, 2 + i, none⟩ = some (.int .i64 (ls[i] : Int)) from fun i h => by
        have h5 := hcell (2 + i) (by rw [z64_length]; omega)
        rw [z64_at _ _ (by omega)] at h5
        have := HT.out i h
        rw [List.getElem?_eq_getElem (by omega)] at this
        rw [Option.some.inj this] at h5
        exact h5)
      have HCAP := Go.Lib.hid (show H.length ≤ cap from by have h5 := hown.1; obtain ⟨a', c', he, h6, -⟩ := hown.rv; simp only [Value.slice.injEq] at he; rw [z64_length] at h6; omega)
      have HO := Go.Lib.hid hown
      have HB := Go.Lib.hid hbw
      have HK := Go.Lib.hid hblk
      have HL := Go.Lib.hid hlen
      have HS := Go.Lib.hid hsz
      have HG := Go.Lib.hid (And.intro hg hgB)
      have k1 : ¬ (H.length : Int) < 2 := by omega
      have k2 : IntKind.i64.wrap ((H.length : Int) - 2) = (ls.length : Int) := by rw [IntKind.wrap_i64]; omega
      have k3 : (0 : Int) < (H.length : Int) := by omega
      have k4 : (1 : Int) < (H.length : Int) := by omega
      have k5 : ¬ (size : Int) < 0 := by omega
      have k6 : ¬ (size : Int) > 896 := by omega
      have C := Go.Lib.hid fun W => osectors_c size (size : Int) W rfl (by omega)
      rw [← H3.out] at C
      clear hown hbw hblk hlen hcell hg hgB hsz e0 e1 hlt hk H0 H1 HT HN HH
      generalize H.length = m at *
      go_wp2_with fail
      refine (C.out wr).mono ?_
      rintro e w5 ⟨rfl, rfl⟩
      have d0 := ((newB wr (.cells #[.int .i64 0, .int .i64 0, .slice none 0 0] 69)).cell (p := ⟨g, 0, none⟩) HG.out.1).trans c0
      have d1 := ((newB wr (.cells #[.int .i64 0, .int .i64 0, .slice none 0 0] 69)).cell (p := ⟨g, 1, none⟩) HG.out.1).trans c1
      go_upto_region 10 with (fail)
      go_region
      obtain ⟨cg, frg, hbg⟩ := row_blk HO.out
      obtain ⟨ac, hcut, hac⟩ := cut_l64 g m cap 2 (by omega) HCAP.out
      have hlenI : ((m - 2 : Nat) : Int) = (ls.length : Int) := by have := HL.out; omega
      have hlenN : m - 2 = ls.length := by have := HL.out; omega
      rw [hlenN] at hcut
      rw [show ((2 : Nat) : Int) = 2 from rfl] at hcut
      have HW0 := Go.Lib.hid (below_drewN (newB wr (.cells #[.int .i64 (size : Int), .int .i64 sum, .slice none 0 0] 69)) 1)
      have hnb : (wr.alloc (.cells #[.int .i64 (size : Int), .int .i64 sum, .slice none 0 0] 69)).drew.heap[wr.heap.size]? = some (.cells #[.int .i64 (size : Int), .int .i64 sum, .slice none 0 0] 69) := heap_alloc_new wr _
      have hg0 : (wr.alloc (.cells #[.int .i64 (size : Int), .int .i64 sum, .slice none 0 0] 69)).drew.heap[g]? = some (.cells cg 2 frg) := (HW0.out.block g HG.out.1).trans hbg
      have hr0 : (wr.alloc (.cells #[.int .i64 (size : Int), .int .i64 sum, .slice none 0 0] 69)).drew.heap[w.heap.size]? = some (.cells #[.int .i64 0, .int .i64 0, .slice none 0 0] 69) := (HW0.out.block w.heap.size (by have := HS.out; omega)).trans HK.out
      have hbw0 : Below w.heap.size w (wr.alloc (.cells #[.int .i64 (size : Int), .int .i64 sum, .slice none 0 0] 69)).drew := below_to HB.out (Nat.le_refl _) HW0.out
      have HC0 := Go.Lib.hid (show ∀ i (h : i < ls.length), (wr.alloc (.cells #[.int .i64 (size : Int), .int .i64 sum, .slice none 0 0] 69)).drew.cell? ⟨g, 2 + i, none⟩ = some (.int .i64 (ls[i] : Int)) from fun i h => (HW0.out.cell (p := ⟨g, 2 + i, none⟩) HG.out.1).trans (HC.out i h))
      have hsz0 : wr.heap.size < (wr.alloc (.cells #[.int .i64 (size : Int), .int .i64 sum, .slice none 0 0] 69)).drew.heap.size := (Array.getElem?_eq_some_iff.1 hnb).1
      have hlbb : w.heap.size ≤ wr.heap.size := by have := HS.out; omega
      have hneb : wr.heap.size ≠ w.heap.size ∧ wr.heap.size ≠ g := ⟨by have := HS.out; omega, by have := HG.out; omega⟩
      generalize hW : (wr.alloc (.cells #[.int .i64 (size : Int), .int .i64 sum, .slice none 0 0] 69)).drew = W at *
      generalize wr.heap.size = hb at *
      have NB := Go.Lib.hid hnb
      have G0 := Go.Lib.hid hg0
      have R0 := Go.Lib.hid hr0
      have BW0 := Go.Lib.hid hbw0
      have NE := Go.Lib.hid hneb
      have HAC := Go.Lib.hid hac
      have S0 := Go.Lib.hid hsz0
      have LLB := Go.Lib.hid hlbb
      clear hnb hg0 hr0 hbw0 hneb hbg hW hac hsz0 c0 c1 d0 d1 HW0 HC HO HB HK HS HG hlenI hlenN
      go_wp2_with fail
      go_loopw [66] (fun i wl => ∃ (k : Nat) (u : Value), k ≤ ls.length ∧ i = .int .i64 (k : Int) ∧ wl.heap[hb]? = some (.cells #[.int .i64 (size : Int), .int .i64 sum, u] 69) ∧ OwnV 3 wl w.heap.size u (zi .i64 (ls.take k)) ∧ wl.heap[g]? = W.heap[g]? ∧ wl.heap[w.heap.size]? = W.heap[w.heap.size]? ∧ Below w.heap.size w wl) (fun i _ => ls.length - (intOf i).toNat)
      case atStart => exact ⟨0, _, by omega, rfl, NB.out, OwnV.nil _ _ _, rfl, rfl, BW0.out⟩
      case round =>
        obtain ⟨k, u, hk, rfl, hb1, hown, hbg, hbr, hbw⟩ := hrel
        by_cases hlt : k < ls.length
        · obtain rfl := HAC.out (by have := HCAP.out; have := HL.out; omega)
          have c0 := (World.cell?_of_block (w := W) (a := ⟨g, 2 + k, none⟩) hbg).trans (HC0.out k hlt)
          have c1 : wr.cell? ⟨hb, 2, none⟩ = some u := by rw [cell_of_row wr hb 2 _ _ _ hb1]; rfl
          have hkI : (k : Int) < (ls.length : Int) := by omega
          have hsn := Go.Lib.hid (show zi .i64 (ls.take (k + 1)) = zi .i64 (ls.take k) ++ [.int .i64 (ls[k] : Int)] from by rw [List.take_succ_eq_append_getElem hlt, zi_snoc])
          have hln : (zi .i64 (ls.take k)).length ≤ 16 := by rw [zi_length, List.length_take]; omega
          generalize ls[k] = y at *
          have hown3 := Go.Lib.hid (hown.alloc (.cells #[.int .i64 (y : Int)] 3))
          have hrv := Go.Lib.hid (RV.one wr 3 (.int .i64 (y : Int)))
          have hbw3 := Go.Lib.hid (hbw.alloc hbw.size (.cells #[.int .i64 (y : Int)] 3))
          have hln1 := Go.Lib.hid (show ((zi .i64 (ls.take k)).length + [Value.int .i64 (y : Int)].length) * 8 ≤ 140737488355328 from by simp only [List.length_cons, List.length_nil]; omega)
          have hln2 := Go.Lib.hid (show (zi .i64 (ls.take k)).length + [Value.int .i64 (y : Int)].length ≤ 140737488355328 from by have := hln1.out; omega)
          have hal := newB wr (.cells #[.int .i64 (y : Int)] 3)
          have hlb := (Array.getElem?_eq_some_iff.1 hb1).1
          have hlg := (Array.getElem?_eq_some_iff.1 (hbg.trans G0.out)).1
          have hlr := (Array.getElem?_eq_some_iff.1 (hbr.trans R0.out)).1
          have B3 := Go.Lib.hid ((hal.block hb hlb).trans hb1)
          have G3 := Go.Lib.hid (And.intro (hal.block g hlg) hbg)
          have R3 := Go.Lib.hid (And.intro (hal.block w.heap.size hlr) hbr)
          have N1 := Go.Lib.hid (own_ne hown hb1 (by decide))
          have N2 := Go.Lib.hid (own_ne hown (hbg.trans G0.out) (by decide))
          have N3 := Go.Lib.hid (own_ne hown (hbr.trans R0.out) (by decide))
          have LL := Go.Lib.hid (And.intro (Nat.lt_of_lt_of_le hlb hal.size) (And.intro (Nat.lt_of_lt_of_le hlg hal.size) (Nat.lt_of_lt_of_le hlr hal.size)))
          have f1 : (wr.alloc (.cells #[.int .i64 (y : Int)] 3)).heap[hb]? = some (.cells #[.int .i64 (size : Int), .int .i64 sum, u] 69) := B3.out
          clear hown hbw hb1 hbg hbr hal hlb hlg hlr hln hk
          go_wp2_with (first
            | (with_reducible show wpList _ _ _ (⟨some 74, _, _, _, _, _⟩ :: _) _ _; go_must (refine wpList_append_RV rfl (.tmp 71) (.tmp 73) 42 rfl w.heap.size 3 Tryz.underlying42 (.int .i64 0) 8 rfl infoInt u (.slice (some ⟨wr.heap.size, 0, none⟩) 1 1) (zi .i64 (ls.take k)) [.int .i64 (y : Int)] rfl rfl hown3.out hrv.out (one_int _) hln1.out hln2.out hbw3.out.size ?_); intro v4 w4 hown4 hg4; obtain ⟨a4, n4, q4, rfl⟩ := rv_sl hown4.rv; have hb4 := Go.Lib.hid (hbw3.out.grown hg4 hbw3.out.size hown3.out.row); have B4 := Go.Lib.hid ((hg4.block hb LL.out.1 N1.out).trans B3.out); have G4 := Go.Lib.hid ((hg4.block g LL.out.2.1 N2.out).trans (G3.out.1.trans G3.out.2)); have R4 := Go.Lib.hid ((hg4.block w.heap.size LL.out.2.2 N3.out).trans (R3.out.1.trans R3.out.2)); have HO4 := Go.Lib.hid hown4; have b4 := B4.out; have c4 := cell_two b4; have f4 : w4.frozen? ⟨hb, 2, none⟩ = false := frozen_of_row w4 hb 2 _ _ b4; clear hown4 hg4 b4)
            | fail)
          go_roundw
          case rel =>
            have hs := heap_set B4.out 2 (.slice a4 n4 q4)
            refine ⟨k + 1, .slice a4 n4 q4, by omega, by go_num, hs, ?_, (Below.heap_setCell _ _ _ _ (Ne.symm NE.out.2)).trans G4.out, (Below.heap_setCell _ _ _ _ (Ne.symm NE.out.1)).trans R4.out, ?_⟩
            · rw [hsn.out]
              exact row_set HO4.out B4.out (by decide) _ _
            · exact hb4.out.trans ⟨rfl, rfl, rfl, by simp [World.setCell], fun j hj => Below.heap_setCell _ _ _ _ (by rintro rfl; exact absurd hj (by have := LLB.out; omega))⟩
          case measure => simp only [intOf]; omega
        · obtain rfl : k = ls.length := by omega
          rw [List.take_of_length_le (Nat.le_refl _)] at hown
          obtain ⟨a4, n4, q4, rfl⟩ := rv_sl hown.rv
          have c0 : wr.cell? ⟨hb, 0, none⟩ = some (.int .i64 (size : Int)) := by rw [cell_of_row wr hb 0 _ _ _ hb1]; rfl
          have c1 : wr.cell? ⟨hb, 1, none⟩ = some (.int .i64 sum) := by rw [cell_of_row wr hb 1 _ _ _ hb1]; rfl
          have c2 : wr.cell? ⟨hb, 2, none⟩ = some (.slice a4 n4 q4) := cell_two hb1
          have hr1 := hbr.trans R0.out
          have d0 : wr.cell? ⟨w.heap.size, 0, none⟩ = some (.int .i64 0) := by rw [cell_of_row wr w.heap.size 0 _ _ _ hr1]; rfl
          have d1 : wr.cell? ⟨w.heap.size, 1, none⟩ = some (.int .i64 0) := by rw [cell_of_row wr w.heap.size 1 _ _ _ hr1]; rfl
          have d2 : wr.cell? ⟨w.heap.size, 2, none⟩ = some (.slice none 0 0) := cell_two hr1
          have f0 : wr.frozen? ⟨w.heap.size, 0, none⟩ = false := frozen_of_row wr w.heap.size 0 _ _ hr1
          have f1 : wr.frozen? ⟨w.heap.size, 1, none⟩ = false := frozen_of_row wr w.heap.size 1 _ _ hr1
          have f2 : wr.frozen? ⟨w.heap.size, 2, none⟩ = false := frozen_of_row wr w.heap.size 2 _ _ hr1
          have HO := Go.Lib.hid hown
          have HB := Go.Lib.hid hbw
          have HR1 := Go.Lib.hid hr1
          clear hown hbw hb1 hbg hbr hr1
          go_wp2_with fail
          have hfin := heap_set (heap_set (heap_set HR1.out 0 (.int .i64 (size : Int))) 1 (.int .i64 sum)) 2 (.slice a4 n4 q4)
          have hbel : Below w.heap.size w (((wr.setCell ⟨w.heap.size, 0, none⟩ (.int .i64 (size : Int))).setCell ⟨w.heap.size, 1, none⟩ (.int .i64 sum)).setCell ⟨w.heap.size, 2, none⟩ (.slice a4 n4 q4)) :=
            ((HB.out.setCell (p := ⟨w.heap.size, 0, none⟩) (Nat.le_refl _) _).setCell (p := ⟨w.heap.size, 1, none⟩) (Nat.le_refl _) _).setCell (p := ⟨w.heap.size, 2, none⟩) (Nat.le_refl _) _
          refine bodyPost_ret (results_row_one (p := 2) (u := 3) (ty := 69) rfl _ _ w.heap.size 69 #[.int .i64 (size : Int), .int .i64 sum, .slice a4 n4 q4] (0, 0) _ rfl hfin Tryz.underlying69 rfl (by kernel_rfl)) rfl ?_
          exact ⟨_, rfl, row_set (row_set (row_set HO.out HR1.out (by decide) _ _) (heap_set HR1.out _ _) (by decide) _ _) (heap_set (heap_set HR1.out _ _) _ _) (by decide) _ _, hbel⟩

end Go.Proofs.YtnalokjnbccjnaaGreatDoor

namespace Go.Proofs.YtnalokjnbccjnaaGreatDoor
open Go.RowKit

theorem RO.mono {w : World} {B B' rf rl n : Nat} {vf vl : Value} {U : List Nat} (h : RO w B rf rl n vf vl U) (hB : B' ≤ B) : RO w B' rf rl n vf vl U := ⟨h.f.mono hB, h.l.mono hB, h.ap, h.n0, h.n1⟩
theorem below_own {w0 w1 w2 : World} {v : Value} (h : Below w0.heap.size w0 w1) (hg : w1.grownBy w2 v.ownBlock) (hv : ∀ k, v.ownBlock = some k → w0.heap.size ≤ k) : Below w0.heap.size w0 w2 := h.grown hg h.size hv

theorem gL_out (n : Nat) (U : List Nat) (hn : 14 ≤ n) : ∀ k, n - 12 + 12 ≤ k → gL n U k = false := by
  intro k hk
  cases h : gL n U k with
  | false => rfl
  | true =>
    have := gL_iff.1 h
    omega
theorem nextI_some {n i : Nat} {U : List Nat} (hn : 64 ≤ n) (h : nextI n U = some i) : 2 ≤ i ∧ i < n ∧ i ∉ U := by
  unfold nextI at h
  cases hf : fitF (gL n U) (n - 12 + 12) 1 with
  | some x =>
    rw [hf] at h
    obtain rfl := Option.some.inj h
    obtain ⟨hall, -, -, -⟩ := fit_some (by omega) (gL_out n U (by omega)) hf
    have hG := gL_iff.1 (hall x.1 (Nat.le_refl _) (by omega))
    exact ⟨by omega, hG.2.1, hG.2.2⟩
  | none =>
    rw [hf] at h
    cases hl : (spS (gF n U) (2 + (n - 14))).getLast? with
    | none => simp only [hl] at h; cases h
    | some x =>
      simp only [hl] at h
      obtain rfl := Option.some.inj h
      have hx := (spS_rows (gF n U) (2 + (n - 14))).each x (List.mem_of_getLast? hl)
      have hG := gF_iff.1 (hx.2.2.1 (x.1 + x.2 - 1) (by omega) (by omega))
      exact ⟨hG.1, by omega, hG.2.2⟩
theorem nextI_none {n : Nat} {U : List Nat} (hn : 64 ≤ n) (h : nextI n U = none) : ∀ i, 2 ≤ i → i < n → i ∈ U := by
  unfold nextI at h
  cases hf : fitF (gL n U) (n - 12 + 12) 1 with
  | some x => rw [hf] at h; cases h
  | none =>
    rw [hf] at h
    have hnoL := fit1_none (gL_out n U (by omega)) hf
    cases hl : (spS (gF n U) (2 + (n - 14))).getLast? with
    | some x => simp only [hl] at h; cases h
    | none =>
      have hnil := List.getLast?_eq_none_iff.1 hl
      intro i h1 h2
      by_cases hm : i ∈ U
      · exact hm
      · by_cases h3 : n - 12 ≤ i
        · have := gL_iff.2 ⟨h3, h2, hm⟩
          rw [hnoL] at this
          cases this
        · obtain ⟨x, hx, -⟩ := (spS_rows (gF n U) (2 + (n - 14))).all i (by omega) (gF_iff.2 ⟨h1, by omega, hm⟩)
          rw [hnil] at hx
          exact absurd hx (by simp)
theorem takel_spec {n : Nat} (U : List Nat) (hn : 64 ≤ n) : ∀ m, NewL n U (takeL n U m) ∧ ((takeL n U m).length = m ∨ ((takeL n U m).length < m ∧ nextI n (U ++ takeL n U m) = none))
  | 0 => ⟨NewL.nil _ _, .inl rfl⟩
  | m + 1 => by
    obtain ⟨h1, h2⟩ := takel_spec U hn m
    cases hx : nextI n (U ++ takeL n U m) with
    | none =>
      have e := takeL_stop hx 1
      rw [e]
      exact ⟨h1, .inr ⟨by rcases h2 with h2 | h2 <;> omega, hx⟩⟩
    | some i =>
      have e := takeL_more hx
      rw [e]
      obtain ⟨a1, a2, a3⟩ := nextI_some hn hx
      refine ⟨h1.snoc a1 a2 a3, .inl ?_⟩
      rcases h2 with h2 | ⟨-, h2⟩
      · rw [List.length_append, h2]; rfl
      · rw [h2] at hx; cases hx
theorem takel_full {n : Nat} (U : List Nat) (hn : 64 ≤ n) (m : Nat) : NewL n U (takeL n U m) ∧ ((takeL n U m).length = m ∨ ((takeL n U m).length < m ∧ ∀ i, 2 ≤ i → i < n → i ∈ U ++ takeL n U m)) := by
  obtain ⟨h1, h2⟩ := takel_spec U hn m
  exact ⟨h1, h2.imp id fun h => ⟨h.1, nextI_none hn h.2⟩⟩
theorem ents_sl {w : World} {B : Nat} {v : Value} {l : List EntT} (h : OwnE w B v l) : ∃ a n c, v = .slice a n c := by
  obtain ⟨a, c, hv, -⟩ := h.re.form
  exact ⟨a, _, c, hv⟩
/-- What stands while the list's sectors are taken. -/
structure TL (w0 w1 : World) (rf rl n : Nat) (vf vl : Value) (U L : List Nat) (vw : Value) (F : List FreshT) (b8 b10 : Nat) (v0 v1 : Value) (X : List EntT) (T : List UInt8) (LL : List Nat) (d5 d10 : Bool) (w : World) : Prop where
  pr : ∃ v2, PR w0 w1 w rf rl n vf vl (if d5 = true then U ++ L else U) vw F b8 b10 v0 v1 v2 X T ∧ (d10 = false → v2 = .slice none 0 0) ∧ (d10 = true → OwnV 3 w w0.heap.size v2 (zi .i64 LL))
section
variable {w0 w1 W W' : World} {rf rl n : Nat} {vf vl : Value} {U L : List Nat} {vw : Value} {F : List FreshT} {b8 b10 : Nat} {v0 v1 : Value} {X : List EntT} {T : List UInt8} {LL : List Nat} {d5 d10 : Bool} {done : Nat → Bool}
theorem TL.drew (h : TL w0 w1 rf rl n vf vl U L vw F b8 b10 v0 v1 X T LL d5 d10 W) : TL w0 w1 rf rl n vf vl U L vw F b8 b10 v0 v1 X T LL d5 d10 W.drew := by
  obtain ⟨v2, h1, h2, h3⟩ := h.pr
  exact ⟨v2, h1.drew, h2, fun e => (h3 e).below ⟨rfl, rfl, rfl, Nat.le_refl _, fun _ _ => rfl⟩⟩
theorem TL.keep (h : TL w0 w1 rf rl n vf vl U L vw F b8 b10 v0 v1 X T LL (done 5) (done 10) W) (i : Nat) (h5 : 5 ≠ i) (h10 : 10 ≠ i) : TL w0 w1 rf rl n vf vl U L vw F b8 b10 v0 v1 X T LL (doneToo done i 5) (doneToo done i 10) W := by
  rw [doneToo_other h5, doneToo_other h10]
  exact h
theorem TL.used (h : TL w0 w1 rf rl n vf vl U L vw F b8 b10 v0 v1 X T LL (done 5) (done 10) W) (hr : RO W' w1.heap.size rf rl n vf vl (U ++ L)) (ht : TF 4 W W') (hb : Below w1.heap.size W W') : TL w0 w1 rf rl n vf vl U L vw F b8 b10 v0 v1 X T LL (doneToo done 5 5) (doneToo done 5 10) W' := by
  rw [doneToo_self, doneToo_other (by decide)]
  obtain ⟨v2, h1, h2, h3⟩ := h.pr
  exact ⟨v2, h1.rooms hr ht hb, h2, fun e => ht.row (h3 e) (by decide)⟩
theorem TL.stored (h : TL w0 w1 rf rl n vf vl U L vw F b8 b10 v0 v1 X T LL (done 5) (done 10) W) (u : Value) (hu : OwnV 3 W w0.heap.size u (zi .i64 LL)) (_hn : done 10 = false) : TL w0 w1 rf rl n vf vl U L vw F b8 b10 v0 v1 X T LL (doneToo done 10 5) (doneToo done 10 10) (W.setCell ⟨b10, 2, none⟩ u) := by
  rw [doneToo_self, doneToo_other (by decide)]
  obtain ⟨v2, h1, h2, h3⟩ := h.pr
  have hne : ∀ {t : TypeId} {cs : Array Value} {fr : Nat × Nat} {k : Nat}, W.heap[k]? = some (.cells cs t fr) → t ≠ 80 → k ≠ b10 := fun hk ht e => by
    subst e
    rw [h1.pl] at hk
    simp only [Option.some.injEq, Obj.cells.injEq] at hk
    exact ht hk.2.1.symm
  refine ⟨u, ⟨h1.ro.setCell h1.pl (by decide) (by decide) u, (Below.heap_setCell _ _ _ _ (Ne.symm h1.b)).trans h1.res, (Below.heap_setCell _ _ _ _ (hne h1.rm (by decide))).trans h1.rm, heap_set h1.pl 2 u, row_set h1.row h1.pl (by decide) _ _, row_set h1.files h1.pl (by decide) _ _, row_set h1.text h1.pl (by decide) _ _, h1.bel.setCell (p := ⟨b10, 2, none⟩) h1.b0 _, h1.b, h1.b0, h1.w01⟩, fun e => absurd e (by decide), fun _ => row_set hu h1.pl (by decide) _ _⟩
end
def VL2 (B rf rl b10 : Nat) (v1 : Value) (n1 S : Int) (r : Bool) (LL : List Nat) : Nat → World → Value → Prop
  | 48, _, v => v = .agg #[.pointer (some ⟨rf, 0, none⟩), .pointer (some ⟨rl, 0, none⟩)]
  | 49, _, v => v = .pointer (some ⟨b10, 1, none⟩)
  | 50, _, v => v = v1
  | 51, _, v => v = .int .i64 n1
  | 52, _, v => v = .int .i64 S
  | 53, w, v => ∃ u, v = .tuple #[u, .bool r] ∧ OwnV 3 w B u (zi .i64 LL)
  | 47, w, v => ∃ u, v = .tuple #[u, .bool r] ∧ OwnV 3 w B u (zi .i64 LL)
  | 54, w, v => OwnV 3 w B v (zi .i64 LL)
  | 55, _, v => v = .bool r
  | 56, _, v => v = .pointer (some ⟨b10, 2, none⟩)
  | 13, _, v => v = .bool r
  | _, _, _ => True
theorem VL2_tf (B rf rl b10 : Nat) (v1 : Value) (n1 S : Int) (r : Bool) (LL : List Nat) {t : TypeId} (ht : 3 ≠ t) : ∀ (i : Nat) (w w' : World) (v : Value), TF t w w' → VL2 B rf rl b10 v1 n1 S r LL i w v → VL2 B rf rl b10 v1 n1 S r LL i w' v := by
  intro i w w' v hk h
  unfold VL2 at h ⊢
  split at h
  all_goals first
    | exact h
    | trivial
    | (obtain ⟨u, h1, h2⟩ := h; exact ⟨u, h1, hk.row h2 ht⟩)
    | exact hk.row h ht
theorem TF.set {t : TypeId} {w : World} {k o : Nat} {cs : Array Value} {fr : Nat × Nat} (h : w.heap[k]? = some (.cells cs t fr)) (u : Value) : TF t w (w.setCell ⟨k, o, none⟩ u) :=
  ⟨rfl, rfl, rfl, by simp [World.setCell], fun j ob hj hn => (Below.heap_setCell _ _ _ _ (by rintro rfl; rw [h] at hj; cases hj; exact hn _ _ rfl)).trans hj⟩

/-- What prepare answers where there is room for the files. -/
def PrepOk (w0 : World) (n : Nat) (U : List Nat) (K : List EntT) (F : List FreshT) (vw : Value) (e : Ending) (w' : World) : Prop :=
  ∃ F' es' v0 v1 v2, (F'.map stripF).Perm (F.map stripF) ∧ Pl n (U) F' ∧ es'.Perm (K ++ F'.map (·.1)) ∧ MayL es' ∧ OwnFr w' w0.heap.size vw F' ∧ OwnE w' w0.heap.size v0 es' ∧ Own 5 w' w0.heap.size v1 (lstB es') ∧
         e = .returned (.tuple #[.agg #[v0, v1, v2], .bool (decide ((takeL n (U ++ F'.flatMap spanFr) (secs (lstB es').length)).length = secs (lstB es').length))]) ∧
         OwnV 3 w' w0.heap.size v2 (zi .i64 (wholeL (takeL n (U ++ F'.flatMap spanFr) (secs (lstB es').length)) (secs (lstB es').length))) ∧
         NewL n (U ++ F'.flatMap spanFr) (takeL n (U ++ F'.flatMap spanFr) (secs (lstB es').length)) ∧
         ((takeL n (U ++ F'.flatMap spanFr) (secs (lstB es').length)).length = secs (lstB es').length ∨ (takeL n (U ++ F'.flatMap spanFr) (secs (lstB es').length)).length < secs (lstB es').length ∧ ∀ i, 2 ≤ i → i < n → i ∈ U ++ F'.flatMap spanFr ++ takeL n (U ++ F'.flatMap spanFr) (secs (lstB es').length))

section
variable {w w0 : World} {B B' s d p g n : Nat} {S : Nat → Sec} {L : Life} {es : List EntT} {ls : List Nat} {down : Bool}
set_option maxHeartbeats 8000000 in
set_option maxRecDepth 100000 in
theorem prepare_c (hs : ST w B s d p es ls down) (hd : DV w B' d g n S L) (hn : 64 ≤ n) (hu : UsedOk n es ls) (vk vw : Value) (K : List EntT) (F : List FreshT)
    (hk : OwnE w w0.heap.size vk K) (hf : OwnFr w w0.heap.size vw F) (hb0 : Below w0.heap.size w0 w) (hF : SrtF F) (hK : K.length ≤ 32) (hz : ∀ x ∈ F, 0 ≤ x.1.2.1 ∧ x.1.2.1 ≤ 65536 ∧ x.1.2.2 = (0, 0))
    (hmay : ∀ F' es', (F'.map stripF).Perm (F.map stripF) → Pl n (usedL es ls) F' → es'.Perm (K ++ F'.map (·.1)) → RiseN es' → MayL es') :
    Calls Tryz.prog 38 #[.pointer (some ⟨s, 0, none⟩), vk, vw] w fun e w' => Below w0.heap.size w0 w' ∧
      ((e = .returned (.tuple #[.agg #[.slice none 0 0, .slice none 0 0, .slice none 0 0], .bool false]) ∧ NoFit n (usedL es ls) F) ∨
       PrepOk w0 n (usedL es ls) K F vw e w') := by
  obtain ⟨U, hU⟩ : ∃ U, U = usedL es ls := ⟨_, rfl⟩
  rw [← hU] at hmay ⊢
  have hbx := newB w (.cells #[.slice none 0 0, .slice none 0 0, .slice none 0 0] 80)
  have HRES := Go.Lib.hid (heap_alloc_new w (.cells #[.slice none 0 0, .slice none 0 0, .slice none 0 0] 80))
  have C1 := Go.Lib.hid (left_c (hs.below hbx) (hd.below hbx) hn hu)
  rw [← hU] at C1
  have HBX := Go.Lib.hid hbx
  have HK := Go.Lib.hid hk
  have HFR := Go.Lib.hid hf
  have HB0 := Go.Lib.hid hb0
  have HZ := Go.Lib.hid hz
  have HM := Go.Lib.hid hmay
  obtain ⟨pk, ck, rfl, -⟩ := hk.re.form
  obtain ⟨pf, cf, rfl⟩ : ∃ p c, vw = .slice p F.length c := by
    rcases fresh_form hf with ⟨rfl, p, c, rfl⟩ | ⟨g, c, rfl, -⟩
    · exact ⟨p, c, rfl⟩
    · exact ⟨_, c, rfl⟩
  clear hs hd hu hk hf hb0 hz hmay hbx hU
  go_enter Tryz.func38, Tryz.ntmps38
  go_wp2_with fail
  refine C1.out.mono ?_
  rintro e w2 ⟨rf, rl, vf, vl, rfl, hro, hb2⟩
  have hbw2 := below_to HBX.out (Nat.le_refl _) hb2
  have hal := newB w2 (.cells #[.pointer (some ⟨rf, 0, none⟩), .pointer (some ⟨rl, 0, none⟩)] 92)
  have hbw3 := below_to hbw2 (Nat.le_refl _) hal
  have hrm := heap_alloc_new w2 (.cells #[.pointer (some ⟨rf, 0, none⟩), .pointer (some ⟨rl, 0, none⟩)] 92)
  have hro3 := (hro.below hal).mono (B' := w.heap.size) (by simp)
  have hres3 := keptR (keptR HRES.out hb2) hal
  have hf3 : OwnFr (w2.alloc (.cells #[.pointer (some ⟨rf, 0, none⟩), .pointer (some ⟨rl, 0, none⟩)] 92)) w0.heap.size (.slice pf F.length cf) F := row_keep HFR.out fun k _ _ _ h5 => hbw3.block k (Array.getElem?_eq_some_iff.1 h5).1
  have CP := Go.Lib.hid (place_c (w0 := w) (Bv := w0.heap.size) hro3 hbw3 (.slice pf F.length cf) F hf3 hF HZ.out)
  replace hF := hF.len
  obtain ⟨z0, z1⟩ := cell_of2 hrm
  have HRM := Go.Lib.hid hrm
  have HRES3 := Go.Lib.hid hres3
  have HF3 := Go.Lib.hid hf3
  have HBW3 := Go.Lib.hid hbw3
  have HW01 := Go.Lib.hid HB0.out.size
  have HFROW := Go.Lib.hid (World.ownsRow.row' HFR.out)
  have HK3 := Go.Lib.hid (HK.out.below hbw3)
  clear hro hb2 hbw2 hal hbw3 hrm hro3 hres3 hf3 C1
  go_wp2_with fail
  refine CP.out.mono ?_
  rintro e w4 ⟨hg4, htf4, hcase⟩
  have HRM4 := Go.Lib.hid (htf4.cells HRM.out (by decide) (by decide))
  have HRES4 := Go.Lib.hid (htf4.cells HRES3.out (by decide) (by decide))
  have HK4 := Go.Lib.hid (show OwnE w4 w0.heap.size (.slice pk K.length ck) K from htf4.row HK3.out (by decide) (by decide))
  have HBW4 := Go.Lib.hid (below_own HB0.out hg4 HFROW.out)
  clear hg4 htf4 HRM HRES3 HK3 HF3 z0 z1 CP
  rcases hcase with ⟨rfl, F', hp, hpl, hrow, hro⟩ | ⟨rfl, hno⟩
  · have hal := newB w4 (.cells #[.slice pk K.length ck, .slice none 0 0, .slice none 0 0] 80)
    have hPR : PR w0 w (w4.alloc (.cells #[.slice pk K.length ck, .slice none 0 0, .slice none 0 0] 80)) rf rl n vf vl (U ++ F'.flatMap spanFr) (.slice pf F.length cf) F' w2.heap.size w4.heap.size (.slice pk K.length ck) (.slice none 0 0) (.slice none 0 0) (K ++ (F'.take 0).map (·.1)) [] := by
      refine ⟨hro.below hal, keptR HRES4.out hal, keptR HRM4.out hal, heap_alloc_new w4 _, row_keep hrow fun k _ _ _ h5 => hal.block k (Array.getElem?_eq_some_iff.1 h5).1, by simpa using HK4.out.below hal, Own.nil _ _ _, below_to HBW4.out (Nat.le_refl _) hal, ?_, HBW4.out.size, HW01.out⟩
      have := (Array.getElem?_eq_some_iff.1 HRES4.out).1
      omega
    have HPR := Go.Lib.hid hPR
    have HP := Go.Lib.hid hp
    have HPL := Go.Lib.hid hpl
    have hlen : F'.length = F.length := by have := hp.length_eq; rwa [List.length_map, List.length_map] at this
    obtain ⟨NF, hNF⟩ : ∃ NF, NF = F.length := ⟨_, rfl⟩
    have HNF := Go.Lib.hid hNF
    clear hp hpl hrow hro hal hPR
    go_wp2_with fail
    go_loopw [28] (fun i wr => ∃ (k : Nat) (v0 : Value), k ≤ NF ∧ i = .int .i64 (k : Int) ∧ PR w0 w wr rf rl n vf vl (U ++ F'.flatMap spanFr) (.slice pf F.length cf) F' w2.heap.size w4.heap.size v0 (.slice none 0 0) (.slice none 0 0) (K ++ (F'.take k).map (·.1)) []) (fun i _ => NF - (intOf i).toNat)
    case atStart => exact ⟨0, _, by omega, rfl, HPR.out⟩
    case round =>
      obtain ⟨k, v0, hk, rfl, hpr⟩ := hrel
      have hNF := HNF.out
      by_cases hlt : k < NF
      · have hkF : k < F'.length := by omega
        obtain ⟨g', c', hv, hgl⟩ : ∃ g c', Value.slice pf F.length cf = .slice (some ⟨g, 0, none⟩) F'.length c' ∧ g < wr.heap.size := by
          rcases fresh_form hpr.row with ⟨h0, -⟩ | ⟨g, c', hv, hgl⟩
          · rw [h0] at hkF; simp at hkF
          · exact ⟨g, c', hv, hgl⟩
        simp only [Value.slice.injEq] at hv
        obtain ⟨rfl, -, rfl⟩ := hv
        have hrow := hpr.row
        rw [← hlen] at hrow
        have x0 := (fresh_at hrow hkF 0 (by omega)).1
        have x1 := (fresh_at hrow hkF 1 (by omega)).1
        have x2 := (fresh_at hrow hkF 2 (by omega)).1
        have x3 := (fresh_at hrow hkF 3 (by omega)).1
        have x4 := (fresh_at hrow hkF 4 (by omega)).1
        rw [Nat.add_zero] at x0
        have hkI : (k : Int) < (F.length : Int) := by omega
        have htk : K ++ (F'.take (k + 1)).map (·.1) = (K ++ (F'.take k).map (·.1)) ++ [F'[k].1] := by rw [List.take_succ_eq_append_getElem hkF, List.map_append, List.append_assoc]; rfl
        have hXl : (K ++ (F'.take k).map (·.1)).length ≤ 80 := by rw [List.length_append, List.length_map, List.length_take]; omega
        generalize F'[k] = x at *
        obtain ⟨⟨nm, en, ea, ess⟩, sl⟩ := x
        simp only [efr, List.getElem?_cons_succ, List.getElem?_cons_zero] at x0 x1 x2 x3 x4
        have hal := newB wr (.cells #[.string nm, .int .i64 en, .int .i64 ea, .int .i64 ess, .slice sl.1 sl.2.1 sl.2.2] 111)
        have hal2 := newB (wr.alloc (.cells #[.string nm, .int .i64 en, .int .i64 ea, .int .i64 ess, .slice sl.1 sl.2.1 sl.2.2] 111)) (.cells #[.string nm, .int .i64 en, .int .i64 ea, .int .i64 ess] 98)
        have hpr2 := (hpr.below hal).below hal2
        obtain ⟨y0, y1, y2, y3, y4⟩ := cell_of5 (heap_alloc_new wr (.cells #[.string nm, .int .i64 en, .int .i64 ea, .int .i64 ess, .slice sl.1 sl.2.1 sl.2.2] 111))
        obtain ⟨z0, z1, z2⟩ := cell_of3 (hpr.below hal).pl
        have hre := RE.one (wr.alloc (.cells #[.string nm, .int .i64 en, .int .i64 ea, .int .i64 ess, .slice sl.1 sl.2.1 sl.2.2] 111)) nm en ea ess
        unfold entO at hre
        rw [show (wr.alloc (.cells #[.string nm, .int .i64 en, .int .i64 ea, .int .i64 ess, .slice sl.1 sl.2.1 sl.2.2] 111)).heap.size = wr.heap.size + 1 from by simp] at hre
        have HRE := Go.Lib.hid hre
        have HPR2 := Go.Lib.hid hpr2
        have HOW := Go.Lib.hid hpr2.files
        have HTK := Go.Lib.hid htk
        have HXL := Go.Lib.hid hXl
        have HLT := Go.Lib.hid hlt
        clear hrow hal hal2 hpr hpr2 hre htk hXl hNF hk
        go_wp2_with (first
          | (with_reducible show wpList _ _ _ (⟨some 37, _, _, _, _, _⟩ :: _) _ _; go_must (refine wpList_append_ents rfl (.tmp 33) (.tmp 36) rfl w0.heap.size v0 (.slice (some ⟨wr.heap.size + 1, 0, none⟩) 1 1) (K ++ (F'.take k).map (·.1)) [(nm, en, ea, ess)] rfl rfl HOW.out HRE.out (by have := HXL.out; simp only [List.length_cons, List.length_nil]; omega) HPR2.out.bel.size ?_); intro v5 w5 hown5 hg5; obtain ⟨a5, n5, q5, rfl⟩ := ents_sl hown5; have HO5 := Go.Lib.hid hown5; have HG5 := Go.Lib.hid hg5; have hp5 := (HPR2.out.filesTo hown5 hg5).2.2.2.1; have u0 := (cell_of3 hp5).1; have f0 := frozen_of_row w5 w4.heap.size 0 _ _ hp5; clear hown5 hg5 hp5)
          | fail)
        have HF5 := Go.Lib.hid (HPR2.out.filesSet HO5.out HG5.out)
        rw [← HTK.out] at HF5
        go_roundw
        case rel => exact ⟨k + 1, _, by have := HLT.out; omega, by go_num, HF5.out⟩
        case measure => simp only [intOf]; have := HLT.out; omega
      · have hkF : k = F.length := by omega
        rw [List.take_of_length_le (by omega)] at hpr
        have CSO := Go.Lib.hid (sortents_c wr w0.heap.size v0 (K ++ F'.map (·.1)) hpr.files (by rw [List.length_append, List.length_map]; omega))
        obtain ⟨z0, z1, z2⟩ := cell_of3 hpr.pl
        have HPR1 := Go.Lib.hid hpr
        have hkI : ¬ (k : Int) < (F.length : Int) := by omega
        clear hpr hNF hk hlt hkF
        go_wp2_with fail
        refine CSO.out.mono ?_
        rintro e w5 ⟨rfl, es', hp5, hri5, ho5, hg5⟩
        have hpr5 := HPR1.out.sorted ho5 hg5
        obtain ⟨u0, u1, u2⟩ := cell_of3 hpr5.pl
        have hmy := HM.out F' es' HP.out HPL.out hp5 hri5
        have CE := Go.Lib.hid (encode_c v0 es' w5 hpr5.files.re (mayL_iff.2 hmy))
        have HPR5 := Go.Lib.hid hpr5
        have HMY := Go.Lib.hid hmy
        have HP5 := Go.Lib.hid hp5
        clear hp5 hri5 ho5 hg5 hpr5 hmy z0 z1 z2 CSO HPR1
        go_wp2_with fail
        refine CE.out.mono ?_
        rintro e w7 ⟨vt, rfl, ht7, hb7⟩
        obtain ⟨at1, ct1, rfl, -⟩ := ht7.rb
        have hpr7 := HPR5.out.below hb7
        have ht7' : Own 5 w7 w0.heap.size (.slice at1 (lstB es').length ct1) (lstB es') := ht7.mono HPR5.out.bel.size
        have hpr8 := hpr7.set1 ht7'
        have q1 := (cell_of3 hpr7.pl).2.1
        have f1 := frozen_of_row w7 w4.heap.size 1 _ _ hpr7.pl
        have HPR8 := Go.Lib.hid hpr8
        have hbytes := HMY.out.bytes
        have CS := Go.Lib.hid fun W => osectors_c (lstB es').length _ W rfl (by omega)
        have hsec : secs (lstB es').length ≤ 100000 := by unfold secs; omega
        have CT := Go.Lib.hid fun (W : World) (hW : RO W w.heap.size rf rl n vf vl (U ++ F'.flatMap spanFr)) => takelist_c hW (secs (lstB es').length) hsec
        obtain ⟨LL, hLL⟩ : ∃ LL, LL = wholeL (takeL n (U ++ F'.flatMap spanFr) (secs (lstB es').length)) (secs (lstB es').length) := ⟨_, rfl⟩
        obtain ⟨rr, hrr⟩ : ∃ rr, rr = decide ((takeL n (U ++ F'.flatMap spanFr) (secs (lstB es').length)).length = secs (lstB es').length) := ⟨_, rfl⟩
        have CT2 := Go.Lib.hid fun (W : World) (hW : RO W w.heap.size rf rl n vf vl (U ++ F'.flatMap spanFr)) => (CT.out W hW).mono fun _ _ h => h.2.2.1
        rw [← hLL, ← hrr] at CT
        have HLR := Go.Lib.hid (And.intro hLL hrr)
        have HBS := Go.Lib.hid fun (W : World) (hW : Below w0.heap.size w0 W) => hW.size
        have HT0 := Go.Lib.hid (show TL w0 w rf rl n vf vl (U ++ F'.flatMap spanFr) (takeL n (U ++ F'.flatMap spanFr) (secs (lstB es').length)) (.slice pf F.length cf) F' w2.heap.size w4.heap.size v0 (.slice at1 (lstB es').length ct1) es' (lstB es') LL false false (w7.setCell ⟨w4.heap.size, 1, none⟩ (.slice at1 (lstB es').length ct1)) from ⟨_, HPR8.out, fun _ => rfl, fun e => by cases e⟩)
        clear ht7 hb7 hpr7 ht7' hpr8 hbytes hsec hLL hrr u0 u1 u2 CE HPR5 CT2
        go_upto_region 14 with (fail)
        clear q1 f1
        refine wp_region_inv (by kernel_rfl) (VL2 w0.heap.size rf rl w4.heap.size (.slice at1 (lstB es').length ct1) ((lstB es').length : Int) (secs (lstB es').length : Int) rr LL) (fun done W => TL w0 w rf rl n vf vl (U ++ F'.flatMap spanFr) (takeL n (U ++ F'.flatMap spanFr) (secs (lstB es').length)) (.slice pf F.length cf) F' w2.heap.size w4.heap.size v0 (.slice at1 (lstB es').length ct1) es' (lstB es') LL (done 5) (done 10) W) (by decide +kernel) (by decide +kernel) (by rfl) [48, 49, 50, 51, 52, 53, 47, 54, 55, 56, 13] (by rfl) HT0.out.drew ?_ ?_
        · intro i o ho a w6 done hI hnot hr hlen hg
          match i, ho with
          | 0, ho =>
            obtain rfl := Option.some.inj ho
            have h8 := given_old hg 8 (by decide +kernel)
            clear hg
            obtain ⟨v2, hpr, -⟩ := hI.pr
            exact st_list ho (wanted_none rfl) fun Q' hQ => wpList_load_row rfl 92 (.tmp 8) rfl w2.heap.size (by simp [Act.eval, h8]) 92 _ (0, 0) _ hpr.rm Tryz.underlying92 rfl (by kernel_rfl) (wpList_nil (hQ _ _ ⟨_, rfl, hI.keep 0 (by decide) (by decide), fun t u h => h, by rintro t' ⟨⟩; rfl⟩))
          | 1, ho =>
            obtain rfl := Option.some.inj ho
            have h10 := given_old hg 10 (by decide +kernel)
            clear hg
            exact st_yield ho (wanted_none rfl) (.pointer (some ⟨w4.heap.size, 1, none⟩)) w6 (by simp [execOp, Act.eval, h10, go_sem]) ⟨_, rfl, hI.keep 1 (by decide) (by decide), fun t u h => h, by rintro t' ⟨⟩; rfl⟩
          | 2, ho =>
            obtain rfl := Option.some.inj ho
            obtain ⟨_, h49, rfl⟩ := given_fed hg 49 (by decide +kernel)
            clear hg
            obtain ⟨v2, hpr, -⟩ := hI.pr
            have hc := (cell_of3 hpr.pl).2.1
            exact st_yield ho (wanted_none rfl) (.slice at1 (lstB es').length ct1) w6 (by simp [execOp, Act.eval, h49, hc, go_sem]) ⟨_, rfl, hI.keep 2 (by decide) (by decide), fun t u h => h, by rintro t' ⟨⟩; rfl⟩
          | 3, ho =>
            obtain rfl := Option.some.inj ho
            obtain ⟨_, h50, rfl⟩ := given_fed hg 50 (by decide +kernel)
            clear hg
            exact st_yield ho (wanted_none rfl) (.int .i64 ((lstB es').length : Int)) w6 (by simp [execOp, Act.eval, h50, go_sem]) ⟨_, rfl, hI.keep 3 (by decide) (by decide), fun t u h => h, by rintro t' ⟨⟩; rfl⟩
          | 4, ho =>
            obtain rfl := Option.some.inj ho
            obtain ⟨_, h51, rfl⟩ := given_fed hg 51 (by decide +kernel)
            clear hg
            exact st_enter (w1 := w6) ho (wanted_none rfl) 60 #[.int .i64 ((lstB es').length : Int)] (by simp [execOp, Act.eval, h51, resolve, go_sem]) ((CS.out w6).mono (by rintro e w7 ⟨rfl, rfl⟩; exact ⟨_, rfl, _, rfl, hI.keep 4 (by decide) (by decide), fun t u h => h, by rintro t' ⟨⟩; rfl⟩))
          | 5, ho =>
            obtain rfl := Option.some.inj ho
            obtain ⟨_, h48, rfl⟩ := given_fed hg 48 (by decide +kernel)
            obtain ⟨_, h52, rfl⟩ := given_fed hg 52 (by decide +kernel)
            clear hg
            obtain ⟨v2, hpr, -⟩ := id hI.pr
            have hro := hpr.ro
            rw [hnot] at hro
            have hbs := HBS.out w6 hpr.bel
            exact st_enter (w1 := w6) ho (wanted_none rfl) 59 #[.agg #[.pointer (some ⟨rf, 0, none⟩), .pointer (some ⟨rl, 0, none⟩)], .int .i64 (secs (lstB es').length : Int)] (by simp [execOp, Act.eval, h48, h52, resolve, go_sem]) ((CT.out w6 hro).mono (by rintro e w7 ⟨hb7, ht7, hn7, hr7, u, rfl, ho7, -⟩; exact ⟨_, rfl, _, rfl, hI.used hr7 ht7 hb7, fun t u h => VL2_tf _ _ _ _ _ _ _ _ _ (by decide) t _ _ u ht7 h, by rintro t' ⟨⟩; exact ⟨u, rfl, ho7.mono hbs⟩⟩))
          | 6, ho =>
            obtain rfl := Option.some.inj ho
            obtain ⟨_, h53, u, rfl, hu⟩ := given_fed hg 53 (by decide +kernel)
            clear hg
            exact st_yield ho (wanted_none rfl) (.tuple #[u, .bool rr]) w6 (by simp [execOp, Act.eval, h53, go_sem]) ⟨_, rfl, hI.keep 6 (by decide) (by decide), fun t u h => h, by rintro t' ⟨⟩; exact ⟨u, rfl, hu⟩⟩
          | 7, ho =>
            obtain rfl := Option.some.inj ho
            obtain ⟨_, h47, u, rfl, hu⟩ := given_fed hg 47 (by decide +kernel)
            clear hg
            exact st_yield ho (wanted_none rfl) u w6 (by simp [execOp, Act.eval, h47, go_sem]) ⟨_, rfl, hI.keep 7 (by decide) (by decide), fun t u h => h, by rintro t' ⟨⟩; exact hu⟩
          | 8, ho =>
            obtain rfl := Option.some.inj ho
            obtain ⟨_, h47, u, rfl, hu⟩ := given_fed hg 47 (by decide +kernel)
            clear hg
            exact st_yield ho (wanted_none rfl) (.bool rr) w6 (by simp [execOp, Act.eval, h47, go_sem]) ⟨_, rfl, hI.keep 8 (by decide) (by decide), fun t u h => h, by rintro t' ⟨⟩; rfl⟩
          | 9, ho =>
            obtain rfl := Option.some.inj ho
            have h10 := given_old hg 10 (by decide +kernel)
            clear hg
            exact st_yield ho (wanted_none rfl) (.pointer (some ⟨w4.heap.size, 2, none⟩)) w6 (by simp [execOp, Act.eval, h10, go_sem]) ⟨_, rfl, hI.keep 9 (by decide) (by decide), fun t u h => h, by rintro t' ⟨⟩; rfl⟩
          | 10, ho =>
            obtain rfl := Option.some.inj ho
            obtain ⟨_, h56, rfl⟩ := given_fed hg 56 (by decide +kernel)
            obtain ⟨u, h54, hu⟩ := given_fed hg 54 (by decide +kernel)
            clear hg
            obtain ⟨v2, hpr, -⟩ := id hI.pr
            have hc := (cell_of3 hpr.pl).2.2
            have hfz := frozen_of_row w6 w4.heap.size 2 _ _ hpr.pl
            replace hu : OwnV 3 w6 w0.heap.size u (zi .i64 LL) := hu
            obtain ⟨a4, n4, q4, rfl⟩ := rv_sl hu.rv
            exact st_done ho (wanted_none rfl) (w6.setCell ⟨w4.heap.size, 2, none⟩ (.slice a4 n4 q4)) (by simp [execOp, Act.eval, h56, h54, go_sem, hfz, hc]) ⟨_, rfl, hI.stored _ hu hnot, fun t u h => VL2_tf _ _ _ _ _ _ _ _ _ (by decide) t _ _ u (TF.set hpr.pl _) h, by rintro t' ⟨⟩⟩
          | 11, ho =>
            obtain rfl := Option.some.inj ho
            obtain ⟨_, h55, rfl⟩ := given_fed hg 55 (by decide +kernel)
            clear hg
            exact st_yield ho (wanted_none rfl) (.bool rr) w6 (by simp [execOp, Act.eval, h55, go_sem]) ⟨_, rfl, hI.keep 11 (by decide) (by decide), fun t u h => h, by rintro t' ⟨⟩; rfl⟩
          | n + 12, ho => simp at ho
        · intro f w6 done hall hI hv
          have h5 := hall 5 (by decide)
          have h10 := hall 10 (by decide)
          have hv13 := hv 13 (by decide)
          simp only [VL2] at hv13
          simp only [h5, h10] at hI
          obtain ⟨v2, hpr, -, hlist⟩ := hI.pr
          have hlist := hlist rfl
          obtain ⟨a2, n2, q2, rfl⟩ := rv_sl hlist.rv
          obtain ⟨a0, q0, rfl, -⟩ := hpr.files.re.form
          obtain ⟨c0, c1, c2⟩ := cell_of3 hpr.pl
          obtain ⟨d0, d1, d2⟩ := cell_of3 hpr.res
          have f0 := frozen_of_row w6 w.heap.size 0 _ _ hpr.res
          have f1 := frozen_of_row w6 w.heap.size 1 _ _ hpr.res
          have f2 := frozen_of_row w6 w.heap.size 2 _ _ hpr.res
          have HPRF := Go.Lib.hid hpr
          have HLI := Go.Lib.hid hlist
          clear hI hv hall h5 h10 CS CT HBS HT0 hpr hlist
          unfold putAll
          simp only [List.foldl]
          simp only [hv13]
          go_simp
          go_wp2_with fail
          have hfin := heap_set (heap_set (heap_set HPRF.out.res 0 (.slice a0 es'.length q0)) 1 (.slice at1 (lstB es').length ct1)) 2 (.slice a2 n2 q2)
          refine bodyPost_ret (results_row_one (p := 6) (u := 7) (ty := 80) rfl _ _ w.heap.size 80 #[.slice a0 es'.length q0, .slice at1 (lstB es').length ct1, .slice a2 n2 q2] (0, 0) _ rfl hfin Tryz.underlying80 rfl (by kernel_rfl)) rfl ?_
          obtain ⟨e1, e2⟩ := HLR.out
          have hts := takel_full (n := n) (U ++ F'.flatMap spanFr) hn (secs (lstB es').length)
          refine ⟨((HPRF.out.bel.setCell (p := ⟨w.heap.size, 0, none⟩) HW01.out _).setCell (p := ⟨w.heap.size, 1, none⟩) HW01.out _).setCell (p := ⟨w.heap.size, 2, none⟩) HW01.out _, .inr ⟨F', es', _, _, _, HP.out, HPL.out, HP5.out, HMY.out, ?_, ?_, ?_, by rw [← e2]; rfl, ?_, hts.1, hts.2⟩⟩
          · exact row_set (row_set (row_set HPRF.out.row HPRF.out.res (by decide) _ _) (heap_set HPRF.out.res _ _) (by decide) _ _) (heap_set (heap_set HPRF.out.res _ _) _ _) (by decide) _ _
          · exact row_set (row_set (row_set HPRF.out.files HPRF.out.res (by decide) _ _) (heap_set HPRF.out.res _ _) (by decide) _ _) (heap_set (heap_set HPRF.out.res _ _) _ _) (by decide) _ _
          · exact row_set (row_set (row_set HPRF.out.text HPRF.out.res (by decide) _ _) (heap_set HPRF.out.res _ _) (by decide) _ _) (heap_set (heap_set HPRF.out.res _ _) _ _) (by decide) _ _
          · rw [← e1]
            exact row_set (row_set (row_set HLI.out HPRF.out.res (by decide) _ _) (heap_set HPRF.out.res _ _) (by decide) _ _) (heap_set (heap_set HPRF.out.res _ _) _ _) (by decide) _ _
  · have HNO := Go.Lib.hid hno
    clear hno
    have f0 := frozen_of_row w4 w.heap.size 0 _ _ HRES4.out
    have f1 := frozen_of_row w4 w.heap.size 1 _ _ HRES4.out
    have f2 := frozen_of_row w4 w.heap.size 2 _ _ HRES4.out
    obtain ⟨y0, y1, y2⟩ := cell_of3 HRES4.out
    go_wp2_with fail
    have hfin := heap_set (heap_set (heap_set HRES4.out 0 (.slice none 0 0)) 1 (.slice none 0 0)) 2 (.slice none 0 0)
    refine bodyPost_ret (results_row_one (p := 6) (u := 7) (ty := 80) rfl _ _ w.heap.size 80 #[.slice none 0 0, .slice none 0 0, .slice none 0 0] (0, 0) _ rfl hfin Tryz.underlying80 rfl (by kernel_rfl)) rfl ?_
    exact ⟨((HBW4.out.setCell (p := ⟨w.heap.size, 0, none⟩) HW01.out _).setCell (p := ⟨w.heap.size, 1, none⟩) HW01.out _).setCell (p := ⟨w.heap.size, 2, none⟩) HW01.out _, .inl ⟨rfl, HNO.out⟩⟩
end

end Go.Proofs.YtnalokjnbccjnaaGreatDoor

namespace Go.Proofs.YtnalokjnbccjnaaGreatDoor
open Go.RowKit

/-- 'b[:j]', in whatever world b reads. -/
theorem wpList_slice_hi {P : Program} {ops : Array Oper} {rest : List Oper} {o : Oper} {a : Act} {w : World} {Q : Exit → Act → World → Prop} (hgd : o.guard = none) (x hi : Operand) (t : TypeId)
    (ho : o.op = .slice t x none (some hi) none) (e : TypeId) (ht : P.underlying t = some (.slice e)) (hinfo : (P.info? e).map (fun i => (i.zero, i.size, i.bytes)) = some (some (.int .u8 0), 1, 1))
    (v : Value) (l : List UInt8) (kh : IntKind) (H : Int) (j : Nat) (hx : a.eval x = v) (hhi : a.eval hi = .int kh H) (hH : H = (j : Int)) (hrb : RB w v l) (hj : j ≤ l.length)
    (hK : ∀ v', (∀ W, RB W v l → RB W v' (l.take j)) → wpList P ops Q rest (a.put o.dst v') w) : wpList P ops Q (o :: rest) a w := by
  obtain ⟨ad, cap, rfl, h1, h2, h3, h4⟩ := hrb
  obtain ⟨ht', hs⟩ := run_sizeOf (P := P) (w := w) ht hinfo
  subst hH
  have hr := run_slice_h (P := P) w t ad l.length cap ht' kh (j : Int) (by omega) (by omega)
  rw [hs] at hr
  simp only [Int.toNat_natCast, Result.andThen] at hr
  have hc : ∀ W, RB W (.slice ad l.length cap) l → RB W (sliced ad 0 j cap 1) (l.take j) := fun W h => by
    have := h.cut 0 j (Nat.zero_le _) hj
    rwa [List.drop_zero] at this
  exact wpList_gives hgd _ _ (by simp [execOp, ho, hx, hhi, hr, run_sliceAt_slice w t _ _ _ _ ht', Result.andThen]) (hK _ hc)

/-- What stands while a piece is written. -/
structure TW (w0 : World) (B s d g n : Nat) (p : Value) (S0 S1 : Nat → Sec) (L0 L1 : Life) (vf vl : Value) (dn : Bool) (d8 : Bool) (w : World) : Prop where
  dv : DV w B d g n (if d8 = true then S1 else S0) (if d8 = true then L1 else L0)
  two : Two d (some g) w0 w
  st : w.heap[s]? = some (.cells #[.pointer (some ⟨d, 0, none⟩), p, vf, vl, .bool dn] 73)
section
variable {w0 W W' : World} {B s d g n : Nat} {p vf vl : Value} {S0 S1 : Nat → Sec} {L0 L1 : Life} {dn d8 : Bool} {done : Nat → Bool}
theorem TW.drew (h : TW w0 B s d g n p S0 S1 L0 L1 vf vl dn d8 W) : TW w0 B s d g n p S0 S1 L0 L1 vf vl dn d8 W.drew := ⟨h.dv.drew, h.two.drew, h.st⟩
theorem TW.keep (h : TW w0 B s d g n p S0 S1 L0 L1 vf vl dn (done 8) W) (i : Nat) (h8 : 8 ≠ i) : TW w0 B s d g n p S0 S1 L0 L1 vf vl dn (doneToo done i 8) W := by
  rw [doneToo_other h8]
  exact h
theorem st_apart {w : World} {cs : Array Value} (hd : DV w B d g n S0 L0) (h : w.heap[s]? = some (.cells cs 73)) : s ≠ d ∧ s ≠ g := by
  obtain ⟨cur, hr, -⟩ := hd.row.row
  constructor
  · rintro rfl
    rw [hd.blk] at h
    simp only [Option.some.injEq, Obj.cells.injEq] at h
    exact absurd h.2.1 (by decide)
  · rintro rfl
    rw [hr] at h
    simp only [Option.some.injEq, Obj.cells.injEq] at h
    exact absurd h.2.1 (by decide)
theorem TW.wrote (h : TW w0 B s d g n p S0 S1 L0 L1 vf vl dn (done 8) W) (hn : done 8 = false) (hd : DV W' B d g n S1 L1) (ht : Two d (some g) W W') : TW w0 B s d g n p S0 S1 L0 L1 vf vl dn (doneToo done 8 8) W' := by
  have hdv := h.dv
  rw [hn] at hdv
  rw [doneToo_self]
  obtain ⟨a, b⟩ := st_apart hdv h.st
  exact ⟨hd, h.two.trans ht, (ht.block s (Array.getElem?_eq_some_iff.1 h.st).1 a (by simp; exact b)).trans h.st⟩
end
def VW (d s : Nat) (i m r : Int) (x : List UInt8) (w0 : World) (g : Nat) (u : Value) : Nat → World → Value → Prop
  | 20, _, v => v = .pointer (some ⟨s, 0, none⟩)
  | 21, _, v => v = .pointer (some ⟨s, 0, none⟩)
  | 22, _, v => v = .pointer (some ⟨s, 0, none⟩)
  | 23, _, v => v = .pointer (some ⟨d, 0, none⟩)
  | 24, _, v => v = .int .i64 i
  | 25, _, v => v = u
  | 26, _, v => v = .int .i64 m
  | 27, _, v => ∀ W, Two d (some g) w0 W → RB W v x
  | 28, _, v => v = .int .i64 r
  | 10, _, v => v = .int .i64 r
  | _, _, _ => True
theorem VW_any (d s : Nat) (i m r : Int) (x : List UInt8) (w0 : World) (g : Nat) (u : Value) : ∀ (k : Nat) (w w' : World) (v : Value), VW d s i m r x w0 g u k w v → VW d s i m r x w0 g u k w' v := by
  intro k w w' v h
  unfold VW at h ⊢
  split at h <;> first | exact h | trivial

section
variable {w : World} {B s d g n : Nat} {S : Nat → Sec} {L : Life} {p vf vl : Value} {dn : Bool}
set_option maxHeartbeats 8000000 in
set_option maxRecDepth 100000 in
theorem owrite_c (hd : DV w B d g n S L) (hs : w.heap[s]? = some (.cells #[.pointer (some ⟨d, 0, none⟩), p, vf, vl, .bool dn] 73)) (va vb : Value) (at_ : List Nat) (b : List UInt8)
    (ha : ∀ W, Two d (some g) w W → RV W va (zi .i64 at_)) (hb : ∀ W, Two d (some g) w W → RB W vb b) (hat : ∀ i ∈ at_, i < n) (hc : L.calls + at_.length < 1000000) :
    Calls Tryz.prog 61 #[.pointer (some ⟨s, 0, none⟩), va, vb] w fun e w' => Two d (some g) w w' ∧ ∃ k, k ≤ at_.length ∧ DV w' B d g n (wrW S ((layB at_ b).take k)) (tickN L k) ∧
      ((e = .returned (.int .i64 0) ∧ k = at_.length) ∨ (e = .returned (.int .i64 7) ∧ k < at_.length ∧ (tickN L k).dead = true)) := by
  have HA := Go.Lib.hid ha
  have HAT := Go.Lib.hid hat
  have HD := Go.Lib.hid hd
  have HS := Go.Lib.hid hs
  have HC := Go.Lib.hid hc
  have HB := Go.Lib.hid hb
  have hrb := hb w (Two.refl _ _ _)
  obtain ⟨ab, cb, rfl, -⟩ := hrb
  obtain ⟨aa, ca, rfl, hla⟩ := (ha w (Two.refl _ _ _)).form
  rw [zi_length] at HA hla ⊢
  clear ha hat hd hs hc hb
  go_enter Tryz.func61, Tryz.ntmps61
  go_wp2_with fail
  go_loopw [2, 13] (fun bv i wr => ∃ (k : Nat) (u : Value), u = bv ∧ k ≤ at_.length ∧ i = .int .i64 (k : Int) ∧ (∀ W, Two d (some g) w W → RB W u (b.drop (64 * k))) ∧ DV wr B d g n (wrW S ((layB at_ b).take k)) (tickN L k) ∧ Two d (some g) w wr ∧ wr.heap[s]? = some (.cells #[.pointer (some ⟨d, 0, none⟩), p, vf, vl, .bool dn] 73)) (fun _ i _ => at_.length - (intOf i).toNat)
  case atStart => exact ⟨0, _, rfl, by omega, rfl, by simpa using HB.out, HD.out, Two.refl _ _ _, HS.out⟩
  case round =>
    obtain ⟨k, u, rfl, hk, rfl, hu, hdv, htw, hst⟩ := hrel
    by_cases hlt : k < at_.length
    · obtain ⟨ga, oa, rfl, x0, -⟩ := (HA.out wr htw).at k (by rw [zi_length]; exact hlt)
      rw [zi_at _ _ _ hlt] at x0
      have hi := HAT.out at_[k] (List.getElem_mem hlt)
      have hlay := layB_get at_ b k hlt
      have hwk : wrW S ((layB at_ b).take (k + 1)) = wrS (wrW S ((layB at_ b).take k)) at_[k] (pieceB b k) := by
        rw [List.take_succ_eq_append_getElem (by rw [layB_len]; exact hlt), wrW_snoc, hlay]
      have hcalls := tickN_calls L k
      have hpc : pieceB b k = (b.drop (64 * k)).take 64 := rfl
      generalize at_[k] = IX at *
      obtain ⟨au, nu, cu, rfl, hnu⟩ : ∃ a n c, u = .slice a n c ∧ n = (b.drop (64 * k)).length := by
        obtain ⟨a, c, h, -⟩ := hu wr htw
        exact ⟨a, _, c, h, rfl⟩
      obtain ⟨m, hm⟩ : ∃ m, m = min (b.drop (64 * k)).length 64 := ⟨_, rfl⟩
      have hmI : min (nu : Int) 64 = (m : Int) := by omega
      have htm : (b.drop (64 * k)).take m = pieceB b k := by
        rw [hpc, hm]
        by_cases h : (b.drop (64 * k)).length ≤ 64
        · rw [Nat.min_eq_left h, List.take_of_length_le (Nat.le_refl _), List.take_of_length_le h]
        · rw [Nat.min_eq_right (by omega)]
      have hdm : (b.drop (64 * k)).drop m = b.drop (64 * (k + 1)) := by
        by_cases h : (b.drop (64 * k)).length ≤ 64
        · have hmm : m = (b.drop (64 * k)).length := by omega
          rw [hmm, List.drop_of_length_le (Nat.le_refl _), List.drop_of_length_le (by rw [List.length_drop] at h; omega)]
        · have hmm : m = 64 := by omega
          rw [hmm, List.drop_drop, show 64 * k + 64 = 64 * (k + 1) from by omega]
      have hkI : (k : Int) < (at_.length : Int) := by omega
      have HU := Go.Lib.hid hu
      have HML := Go.Lib.hid (show m ≤ (b.drop (64 * k)).length by omega)
      have HTM := Go.Lib.hid htm
      have HDM := Go.Lib.hid hdm
      have HWK := Go.Lib.hid hwk
      have HI := Go.Lib.hid hi
      have HCL := Go.Lib.hid hcalls
      have HLT := Go.Lib.hid hlt
      obtain ⟨R, hR⟩ : ∃ R, R = b.drop (64 * k) := ⟨_, rfl⟩
      rw [← hR] at HU HML HTM HDM
      have HRL := Go.Lib.hid hR
      have hst0 := (cell_of5 hst).1
      obtain ⟨r, hr⟩ : ∃ r : Int, r = if (tickN L k).dead = true then 7 else 0 := ⟨_, rfl⟩
      obtain ⟨S1, hS1⟩ : ∃ S1, S1 = if (tickN L k).dead = true then wrW S ((layB at_ b).take k) else wrW S ((layB at_ b).take (k + 1)) := ⟨_, rfl⟩
      obtain ⟨L1, hL1⟩ : ∃ L1, L1 = if (tickN L k).dead = true then tickN L k else tickN L (k + 1) := ⟨_, rfl⟩
      have CW := Go.Lib.hid (show ∀ (W : World) (x : Value), DV W B d g n (wrW S ((layB at_ b).take k)) (tickN L k) → RB W x (pieceB b k) → Calls Tryz.prog 75 #[.pointer (some ⟨d, 0, none⟩), .int .i64 (IX : Int), x] W fun e W' => e = .returned (.int .i64 r) ∧ DV W' B d g n S1 L1 ∧ Two d (some g) W W' from by
        intro W x hW hx
        cases hdead : (tickN L k).dead with
        | true =>
          refine (dwrite_dead hW hdead (IX : Int) x).mono ?_
          rintro e W' ⟨rfl, rfl⟩
          rw [hr, hS1, hL1, hdead, if_pos rfl, if_pos rfl, if_pos rfl]
          exact ⟨rfl, hW, Two.refl _ _ _⟩
        | false =>
          refine (dwrite_c hW hdead (by rw [HCL.out]; have := HC.out; have := HLT.out; omega) IX HI.out x (pieceB b k) hx (pieceB_len _ _)).mono ?_
          rintro e W' ⟨rfl, h1, h2⟩
          rw [hr, hS1, hL1, hdead, if_neg (by decide), if_neg (by decide), if_neg (by decide), HWK.out]
          exact ⟨rfl, h1, h2⟩)
      have HT0 := Go.Lib.hid (show TW w B s d g n p (wrW S ((layB at_ b).take k)) S1 (tickN L k) L1 vf vl dn false wr from ⟨hdv, htw, hst⟩)
      have HRR := Go.Lib.hid (And.intro hr (And.intro hS1 hL1))
      clear hnu hu htm hdm hwk hi hcalls hm hR hdv htw hst hlay hpc hr hS1 hL1 hk
      go_upto_region 5 with (fail)
      clear x0 hst0 hmI
      refine wp_region_inv (by kernel_rfl) (VW d s (IX : Int) (m : Int) r (pieceB b k) w g (.slice au nu cu)) (fun done W => TW w B s d g n p (wrW S ((layB at_ b).take k)) S1 (tickN L k) L1 vf vl dn (done 8) W) (by decide +kernel) (by decide +kernel) (by rfl) [20, 21, 22, 23, 24, 25, 26, 27, 28, 10] (by rfl) HT0.out.drew ?_ ?_
      · intro i o ho a w6 done hI hnot hr hlen hg
        match i, ho with
        | 0, ho =>
          obtain rfl := Option.some.inj ho
          have h0 := given_old hg 0 (by decide +kernel)
          clear hg
          exact st_yield ho (wanted_none rfl) (.pointer (some ⟨s, 0, none⟩)) w6 (by simp [execOp, Act.eval, h0, go_sem]) ⟨_, rfl, hI.keep 0 (by decide), fun t u h => VW_any _ _ _ _ _ _ _ _ _ t _ _ u h, by rintro t' ⟨⟩; rfl⟩
        | 1, ho =>
          obtain rfl := Option.some.inj ho
          obtain ⟨_, h20, rfl⟩ := given_fed hg 20 (by decide +kernel)
          clear hg
          exact st_yield ho (wanted_none rfl) (.pointer (some ⟨s, 0, none⟩)) w6 (by simp [execOp, Act.eval, h20, go_sem]) ⟨_, rfl, hI.keep 1 (by decide), fun t u h => VW_any _ _ _ _ _ _ _ _ _ t _ _ u h, by rintro t' ⟨⟩; rfl⟩
        | 2, ho =>
          obtain rfl := Option.some.inj ho
          obtain ⟨_, h21, rfl⟩ := given_fed hg 21 (by decide +kernel)
          clear hg
          exact st_yield ho (wanted_none rfl) (.pointer (some ⟨s, 0, none⟩)) w6 (by simp [execOp, Act.eval, h21, go_sem]) ⟨_, rfl, hI.keep 2 (by decide), fun t u h => VW_any _ _ _ _ _ _ _ _ _ t _ _ u h, by rintro t' ⟨⟩; rfl⟩
        | 3, ho =>
          obtain rfl := Option.some.inj ho
          obtain ⟨_, h22, rfl⟩ := given_fed hg 22 (by decide +kernel)
          clear hg
          have hcc := (cell_of5 hI.st).1
          exact st_yield ho (wanted_none rfl) (.pointer (some ⟨d, 0, none⟩)) w6 (by simp [execOp, Act.eval, h22, hcc, go_sem]) ⟨_, rfl, hI.keep 3 (by decide), fun t u h => VW_any _ _ _ _ _ _ _ _ _ t _ _ u h, by rintro t' ⟨⟩; rfl⟩
        | 4, ho =>
          obtain rfl := Option.some.inj ho
          have h8 := given_old hg 8 (by decide +kernel)
          clear hg
          exact st_yield ho (wanted_none rfl) (.int .i64 (IX : Int)) w6 (by simp [execOp, Act.eval, h8, go_sem]) ⟨_, rfl, hI.keep 4 (by decide), fun t u h => VW_any _ _ _ _ _ _ _ _ _ t _ _ u h, by rintro t' ⟨⟩; rfl⟩
        | 5, ho =>
          obtain rfl := Option.some.inj ho
          have h2 := given_old hg 2 (by decide +kernel)
          clear hg
          exact st_yield ho (wanted_none rfl) (.slice au nu cu) w6 (by simp [execOp, Act.eval, h2, go_sem]) ⟨_, rfl, hI.keep 5 (by decide), fun t u h => VW_any _ _ _ _ _ _ _ _ _ t _ _ u h, by rintro t' ⟨⟩; rfl⟩
        | 6, ho =>
          obtain rfl := Option.some.inj ho
          have h9 := given_old hg 9 (by decide +kernel)
          clear hg
          exact st_yield ho (wanted_none rfl) (.int .i64 (m : Int)) w6 (by simp [execOp, Act.eval, h9, go_sem]) ⟨_, rfl, hI.keep 6 (by decide), fun t u h => VW_any _ _ _ _ _ _ _ _ _ t _ _ u h, by rintro t' ⟨⟩; rfl⟩
        | 7, ho =>
          obtain rfl := Option.some.inj ho
          obtain ⟨_, h25, rfl⟩ := given_fed hg 25 (by decide +kernel)
          obtain ⟨_, h26, rfl⟩ := given_fed hg 26 (by decide +kernel)
          clear hg
          exact st_list ho (wanted_none rfl) fun Q' hQ => wpList_slice_hi rfl (.tmp 25) (.tmp 26) 45 rfl 5 Tryz.underlying45 info8 (.slice au nu cu) R .i64 _ m (by simp [Act.eval, h25]) (by simp [Act.eval, h26]) rfl (HU.out _ hI.two) HML.out (fun v' hv' => wpList_nil (hQ _ _ ⟨v', rfl, hI.keep 7 (by decide), fun t u h => VW_any _ _ _ _ _ _ _ _ _ t _ _ u h, by rintro t' ⟨⟩; intro W hW; rw [← HTM.out]; exact hv' W (HU.out W hW)⟩))
        | 8, ho =>
          obtain rfl := Option.some.inj ho
          obtain ⟨_, h23, rfl⟩ := given_fed hg 23 (by decide +kernel)
          obtain ⟨_, h24, rfl⟩ := given_fed hg 24 (by decide +kernel)
          obtain ⟨x27, h27, p27⟩ := given_fed hg 27 (by decide +kernel)
          clear hg
          have hdv := hI.dv
          rw [hnot] at hdv
          exact st_enter (w1 := w6) ho (wanted_none rfl) 75 #[.pointer (some ⟨d, 0, none⟩), .int .i64 (IX : Int), x27] (by simp [execOp, Act.eval, h23, h24, h27, resolve, go_sem]) ((CW.out w6 x27 hdv (p27 w6 hI.two)).mono (by rintro e w7 ⟨rfl, hd7, ht7⟩; exact ⟨_, rfl, _, rfl, hI.wrote hnot hd7 ht7, fun t u h => VW_any _ _ _ _ _ _ _ _ _ t _ _ u h, by rintro t' ⟨⟩; rfl⟩))
        | 9, ho =>
          obtain rfl := Option.some.inj ho
          obtain ⟨_, h28, rfl⟩ := given_fed hg 28 (by decide +kernel)
          clear hg
          exact st_yield ho (wanted_none rfl) (.int .i64 r) w6 (by simp [execOp, Act.eval, h28, go_sem]) ⟨_, rfl, hI.keep 9 (by decide), fun t u h => VW_any _ _ _ _ _ _ _ _ _ t _ _ u h, by rintro t' ⟨⟩; rfl⟩
        | n + 10, ho => simp at ho
      · intro f w6 done hall hI hv
        have h8 := hall 8 (by decide)
        have hv10 := hv 10 (by decide)
        simp only [VW] at hv10
        simp only [h8] at hI
        have HIF := Go.Lib.hid hI
        clear hI hv hall h8 CW HT0
        unfold putAll
        simp only [List.foldl]
        simp only [hv10]
        go_simp
        obtain ⟨e1, e2, e3⟩ := HRR.out
        cases hdead : (tickN L k).dead with
        | true =>
          rw [hdead, if_pos rfl] at e1 e2 e3
          subst e1 e2 e3
          have HDD := Go.Lib.hid hdead
          clear hdead HRR
          go_wp2_with fail
          go_ret
          have hdv := HIF.out.dv
          rw [if_pos rfl, if_pos rfl] at hdv
          exact ⟨HIF.out.two, k, by have := HLT.out; omega, hdv, .inr ⟨rfl, HLT.out, HDD.out⟩⟩
        | false =>
          rw [hdead, if_neg (by decide)] at e1 e2 e3
          subst e1 e2 e3
          clear hdead HRR
          have hdv := HIF.out.dv
          rw [if_pos rfl, if_pos rfl] at hdv
          have HDV := Go.Lib.hid hdv
          clear hdv
          go_wp2_with (first
            | (with_reducible show wpList _ _ _ (⟨some 34, _, _, _, _, _⟩ :: _) _ _; go_must (refine wpList_slice_all rfl (.tmp 32) (.tmp 33) 45 rfl 5 Tryz.underlying45 info8 (.slice au nu cu) R .i64 _ m rfl rfl rfl (HU.out _ HIF.out.two) HML.out ?_); intro v5 hv5; have HV5 := Go.Lib.hid hv5; clear hv5)
            | fail)
          go_roundw
          case rel => exact ⟨k + 1, _, rfl, by have := HLT.out; omega, by go_num, fun W hW => by rw [← HDM.out]; exact HV5.out W (HU.out W hW), HDV.out, HIF.out.two, HIF.out.st⟩
          case measure => simp only [intOf]; have := HLT.out; omega
    · obtain rfl : k = at_.length := by omega
      have HF := Go.Lib.hid (And.intro htw hdv)
      clear hu hdv htw hst
      go_wp2_with fail
      go_ret
      exact ⟨HF.out.1, at_.length, Nat.le_refl _, HF.out.2, .inl ⟨rfl, rfl⟩⟩
end

end Go.Proofs.YtnalokjnbccjnaaGreatDoor
