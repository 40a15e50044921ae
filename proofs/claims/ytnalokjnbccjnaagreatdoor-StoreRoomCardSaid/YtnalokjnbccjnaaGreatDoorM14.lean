/-
  The contract of the laws' Cut of texts (loesslaw3).
  A slice of bools that came in.
  A slice of texts as an argument.
  The law's files: rows of names and bytes; set.
  The law's has.
  Rows of puts that the law makes; many files of one length by letters.
  StoreFuse's closure: many puts.
  A store on a device of whatever life: Apply, Fuse, Crash.
-/
import Derived.Test.YtnalokjnbccjnaaGreatDoorM13
import Derived.Test.YtnalokjnbccjnaaGreatDoorM05
import Derived.Deep.Grids
import Derived.Deep.Strs
namespace Go.Proofs.YtnalokjnbccjnaaGreatDoor
open Go.RowKit

set_option maxRecDepth 100000 in
/-- The laws' 'Cut(s, n)'. -/
theorem lcut_c (s : ByteArray) (n : Nat) (w : World) (h0 : s.size ≤ maxLen) (hn : n ≤ 1000) :
    Calls Tryz.prog 26 #[.string s, .int .i64 n] w fun e w' => e = .returned (.string (str ((bl s).take n))) ∧ w = w' := by
  have hs := h0
  unfold maxLen at hs
  by_cases h : n < s.size
  · have H1 := Go.Lib.hid (take_bl s n)
    go_enter Tryz.func26, Tryz.ntmps26
    go_wp2
    go_ret
    exact ⟨ret_of (congrArg Value.string H1.out), rfl⟩
  · have e1 : s = str ((bl s).take n) := by
      rw [List.take_of_length_le (by rw [← bl_size]; omega), str_bl]
    have H1 := Go.Lib.hid e1; clear e1
    go_enter Tryz.func26, Tryz.ntmps26
    go_wp2
    go_ret
    exact ⟨ret_of (congrArg Value.string H1.out), rfl⟩

end Go.Proofs.YtnalokjnbccjnaaGreatDoor

namespace Go.Proofs.YtnalokjnbccjnaaGreatDoor
open Go.RowKit

theorem open_zb {H : Type} {enc : TypeId × Value → H} {W : World} {t e : TypeId} {a : Option Addr} {len cap : Nat} {d : DataW H} {p : List MemPlace} (ht : Tryz.prog.underlying t = some (.slice e)) (he : Tryz.prog.underlying e = some .bool) (hc : Tryz.prog.cellsOf e = 1)
    (h : DataW.Trod enc Tryz.prog W 0 (fun _ => true) true t (.slice a len cap) d p) : ∃ l : List Bool, RV W (.slice a len cap) (zb l) := by
  obtain ⟨fuel, hf⟩ := h
  rcases Go.Deep.open_bools ht he hc hf with ⟨hcs, -⟩ | ⟨x, l, c, B, hcs, -, hl, hm, -, hcell⟩
  · simp [Value.cells] at hcs
    obtain ⟨rfl, rfl, rfl⟩ := hcs
    exact ⟨[], none, 0, rfl, Nat.le_refl _, by simp [maxLen], fun _ => rfl, fun h => absurd rfl h⟩
  · simp [Value.cells] at hcs
    obtain ⟨rfl, rfl, rfl⟩ := hcs
    refine ⟨(List.range len).map B, some x, cap, by simp [zb], by simpa [zb] using hl, hm, (fun h => by cases h), fun hne => ?_⟩
    have hpos : 0 < len := by
      rcases Nat.eq_zero_or_pos len with h0 | h0
      · subst h0; simp [zb] at hne
      · exact h0
    obtain ⟨b, o, spot⟩ := x
    have hspot : spot = none := by simpa [Addr.add] using World.cell?_spot (hcell 0 (by omega))
    subst hspot
    refine ⟨b, o, rfl, fun i hi => ?_⟩
    have hi' : i < len := by simpa [zb] using hi
    have h1 := hcell i (by omega)
    have hadd : (⟨b, o, none⟩ : Addr).add i = ⟨b, o + i, none⟩ := by unfold Addr.add; split <;> simp_all
    rw [hadd] at h1
    rw [h1]
    simp [zb]

end Go.Proofs.YtnalokjnbccjnaaGreatDoor

namespace Go.Proofs.YtnalokjnbccjnaaGreatDoor
open Go.RowKit Go.ChangeShapes Go.WideShapes Go.Deep

/-- Texts as values. -/
def zs (l : List ByteArray) : List Value := l.map .string
theorem zs_len (l : List ByteArray) : (zs l).length = l.length := by simp [zs]
def RStr (w : World) (v : Value) (l : List ByteArray) : Prop := RV w v (zs l) ∧ ∀ x ∈ l, x.size ≤ maxLen
theorem open_texts {H : Type} {enc : TypeId × Value → H} {W : World} {a : Option Addr} {len cap : Nat} {d : DataW H} {p : List MemPlace} (h : DataW.Trod enc Tryz.prog W 0 (fun _ => true) true 49 (.slice a len cap) d p) : ∃ l : List ByteArray, RStr W (.slice a len cap) l := by
  obtain ⟨fuel, hf⟩ := h
  rcases Go.Deep.open_strs Tryz.underlying49 Tryz.underlying9 (by kernel_rfl) hf with ⟨hcs, -⟩ | ⟨x, l, c, m, B, hcs, -, hl, hm, hmm, -, hcell⟩
  · simp [Value.cells] at hcs
    obtain ⟨rfl, rfl, rfl⟩ := hcs
    exact ⟨[], ⟨none, 0, rfl, Nat.le_refl _, by simp [maxLen], fun _ => rfl, fun h => absurd rfl h⟩, fun x hx => absurd hx (by simp)⟩
  · simp [Value.cells] at hcs
    obtain ⟨rfl, rfl, rfl⟩ := hcs
    simp only [if_true] at hmm
    subst hmm
    refine ⟨(List.range len).map B, ⟨some x, _, by simp [zs], by simpa [zs] using hl, hm, (fun h => by cases h), fun hne => ?_⟩, fun y hy => ?_⟩
    · have hpos : 0 < len := by
        rcases Nat.eq_zero_or_pos len with h0 | h0
        · subst h0; simp [zs] at hne
        · exact h0
      obtain ⟨b, o, spot⟩ := x
      have hspot : spot = none := by simpa [Addr.add] using World.cell?_spot (hcell 0 (by omega)).1
      subst hspot
      refine ⟨b, o, rfl, fun i hi => ?_⟩
      have hi' : i < len := by simpa [zs] using hi
      have h1 := (hcell i (by omega)).1
      have hadd : (⟨b, o, none⟩ : Addr).add i = ⟨b, o + i, none⟩ := by unfold Addr.add; split <;> simp_all
      rw [hadd] at h1
      rw [h1]
      simp [zs]
    · obtain ⟨i, hi, rfl⟩ := List.mem_map.1 hy
      have := List.mem_range.1 hi
      exact (hcell i (by omega)).2

end Go.Proofs.YtnalokjnbccjnaaGreatDoor

namespace Go.Proofs.YtnalokjnbccjnaaGreatDoor
open Go.RowKit

def efl (x : ByteArray × List UInt8) : List Value := [.string x.1, .string (str x.2)]
theorem efl_len (x : ByteArray × List UInt8) : (efl x).length = 2 := rfl
theorem efl_one (x : ByteArray × List UInt8) : ∀ v ∈ efl x, v.oneCell' = true := by
  intro v hv
  simp only [efl, List.mem_cons, List.not_mem_nil, or_false] at hv
  rcases hv with rfl | rfl <;> rfl
/-- A []file that the call makes. -/
def OwnF (w : World) (B : Nat) (v : Value) (L : FL) : Prop := w.ownsRow B 85 2 v L.length (L.flatMap efl)
theorem OwnF.nil (w : World) (B : Nat) : OwnF w B (.slice none 0 0) [] := World.ownsRow_nil w B _ 2
theorem OwnF.below {w w' : World} {B : Nat} {v : Value} {L : FL} (h : OwnF w B v L) (hb : Below w.heap.size w w') : OwnF w' B v L := row_keep h fun k _ _ _ hc => hb.block k (Array.getElem?_eq_some_iff.1 hc).1
theorem OwnF.form {w : World} {B : Nat} {v : Value} {L : FL} (h : OwnF w B v L) : ∃ p c, v = .slice p L.length c := by
  rcases h.2 with ⟨rfl, h0⟩ | ⟨g, cap, cur, rfl, hB, h2, -⟩
  · exact ⟨_, _, by rw [h0]⟩
  · exact ⟨_, cap, rfl⟩
theorem OwnF.at {w : World} {B n c : Nat} {a : Option Addr} {L : FL} (h : OwnF w B (.slice a n c) L) (k : Nat) (hk : k < L.length) : ∃ g, a = some ⟨g, 0, none⟩ ∧ w.cell? ⟨g, k * 2, none⟩ = some (.string L[k].1) ∧ w.cell? ⟨g, k * 2 + 1, none⟩ = some (.string (str L[k].2)) := by
  rcases h.2 with ⟨h', h0⟩ | ⟨g, cap, cur, hv, hB, h2, -⟩
  · omega
  · simp only [Value.slice.injEq] at hv
    obtain ⟨rfl, rfl, rfl⟩ := hv
    refine ⟨g, rfl, ?_, ?_⟩
    · have h1 := flatk_at efl_len L k 0 hk (by omega)
      have h3 := World.ownsRow.cells h (g := g) rfl (k * 2 + 0) (.string L[k].1) (by rw [h1]; rfl)
      rw [Addr.add_mid, Nat.zero_add, Nat.add_zero] at h3
      exact h3
    · have h1 := flatk_at efl_len L k 1 hk (by omega)
      have h3 := World.ownsRow.cells h (g := g) rfl (k * 2 + 1) (.string (str L[k].2)) (by rw [h1]; rfl)
      rw [Addr.add_mid, Nat.zero_add] at h3
      exact h3
theorem OwnF.row {w : World} {B : Nat} {v : Value} {L : FL} (h : OwnF w B v L) : ∀ k, v.ownBlock = some k → B ≤ k := World.ownsRow.row' h
theorem newF (W : World) (a : ByteArray) (b : List UInt8) : (W.alloc (.cells #[.string a, .string (str b)] 85)).heap[W.heap.size]? = some (.cells (efl (a, b)).toArray 85) := heap_alloc_new W _
theorem infoFl : (Tryz.prog.info? 85).map (fun i => (i.zero, i.size, i.bytes)) = some (some (.agg #[.string ⟨#[]⟩, .string ⟨#[]⟩]), 2, 32) := by kernel_rfl
theorem wpList_append_file {ops : Array Oper} {rest : List Oper} {o : Oper} {a : Act} {w : World} {Q : Exit → Act → World → Prop} (hgd : o.guard = none) (s x : Operand)
    (ho : o.op = .call { callee := .builtin .append, args := #[s, x], argTypes := #[30, 30] })
    (B : Nat) (v : Value) (l : FL) (y : ByteArray × List UInt8) (g : Nat) (fr : Nat × Nat) (hs : a.eval s = v) (hx : a.eval x = .slice (some ⟨g, 0, none⟩) 1 1) (hown : OwnF w B v l) (hg : w.heap[g]? = some (.cells (efl y).toArray 85 fr)) (hl : l.length ≤ 1000) (hbase : B ≤ w.heap.size)
    (h : ∀ v' w', OwnF w' B v' (l ++ [y]) → w.grownBy w' v.ownBlock → wpList Tryz.prog ops Q rest (a.put o.dst v') w') : wpList Tryz.prog ops Q (o :: rest) a w := by
  obtain ⟨i, hi, hz, hsize, hby⟩ := info_parts infoFl
  refine wpList_append_own w hgd s x _ ho B 85 i _ 2 32 Tryz.underlying30 hi hz hsize hby rfl (by decide) v l.length (l.flatMap efl) hs hown ⟨g, 0, none⟩ 1 1 (efl y) hx (by rw [efl_len]) ?_ (efl_one y) (by unfold maxLen; omega) (by omega) hbase ?_
  · intro j u hj
    have hadd : (⟨g, 0, none⟩ : Addr).add j = ⟨g, j, none⟩ := by unfold Addr.add; split <;> simp_all
    rw [hadd, cell_of_row w g j _ _ _ hg, List.getElem?_toArray]
    exact hj
  · intro v' w' hown' hg' _
    refine h v' w' ?_ hg'
    unfold OwnF
    rw [List.length_append, List.flatMap_append]
    simpa using hown'
theorem str_ne (a b : ByteArray) : (a.toList == b.toList) = decide (a = b) := by
  by_cases h : a = b
  · subst h; simp
  · rw [decide_eq_false h, beq_eq_false_iff_ne]
    exact fun e => h (toList_inj e)
/-- One round of set. -/
theorem putGo_step (nm : ByteArray) (b : List UInt8) (dn : Bool) (x : ByteArray × List UInt8) (L : FL) :
    putGo nm b dn (x :: L) = (if dn = false ∧ ltN x.1 nm = false then [(nm, b)] else []) ++ ((if x.1 = nm then [] else [x]) ++ putGo nm b (dn || !(ltN x.1 nm)) L) := by
  cases dn with
  | true => simp [putGo]
  | false =>
    cases h : ltN x.1 nm with
    | true =>
      show (if ltN x.1 nm = true then _ else _) = _
      rw [if_pos h]
      simp
    | false =>
      show (if ltN x.1 nm = true then _ else _) = _
      rw [if_neg (by rw [h]; decide)]
      simp

section
variable {w : World} {B : Nat}
set_option maxHeartbeats 8000000 in
set_option maxRecDepth 100000 in
theorem lset_c (v : Value) (L : FL) (hv : OwnF w B v L) (hL : L.length ≤ 400) (nm : ByteArray) (b : List UInt8) (gone : Bool) :
    Calls Tryz.prog 29 #[v, .string nm, .string (str b), .bool gone] w fun e w' => ∃ v', e = .returned v' ∧ OwnF w' w.heap.size v' (setL L nm b gone) ∧ Below w.heap.size w w' := by
  obtain ⟨a0, c0, rfl⟩ := hv.form
  have HV := Go.Lib.hid hv
  have HL := Go.Lib.hid hL
  obtain ⟨n, hn⟩ : ∃ n, n = L.length := ⟨_, rfl⟩
  rw [← hn] at HV ⊢
  have HN := Go.Lib.hid hn
  have hnI : (n : Int) ≤ 400 := by omega
  clear hv hL hn
  go_enter Tryz.func29, Tryz.ntmps29
  go_wp2_with fail
  go_loopw [9, 10, 11] (fun ov dv iv wr => ∃ (k : Nat) (u : Value) (O : FL) (dn : Bool), u = ov ∧ k ≤ n ∧ iv = .int .i64 (k : Int) ∧ dv = .bool dn ∧ OwnF wr w.heap.size u O ∧ O.length ≤ 2 * k ∧ O ++ putGo nm b dn (L.drop k) = setL L nm b gone ∧ Below w.heap.size w wr) (fun _ _ iv _ => n - (intOf iv).toNat)
  case atStart => exact ⟨0, _, [], gone, rfl, by omega, rfl, rfl, OwnF.nil _ _, by simp, by rw [List.drop_zero, List.nil_append]; rfl, Below.refl _ _⟩
  case round =>
    obtain ⟨k, u, O, dn, rfl, hk, rfl, rfl, hO, hOl, hgo, hbw⟩ := hrel
    by_cases hlt : k < n
    · have hkL : k < L.length := by have := HN.out; omega
      obtain ⟨g, rfl, x0, x1⟩ := (HV.out.below hbw).at k hkL
      have HCX := Go.Lib.hid (show ∀ W, Below w.heap.size w W → W.cell? ⟨g, k * 2, none⟩ = some (.string L[k].1) ∧ W.cell? ⟨g, k * 2 + 1, none⟩ = some (.string (str L[k].2)) from fun W hW => by
        obtain ⟨g', e, c0, c1⟩ := (HV.out.below hW).at k hkL
        simp only [Option.some.injEq, Addr.mk.injEq, and_true] at e
        subst e
        exact ⟨c0, c1⟩)
      have hdrop : L.drop k = L[k] :: L.drop (k + 1) := List.drop_eq_getElem_cons hkL
      rw [hdrop, putGo_step] at hgo
      generalize L[k] = x at *
      obtain ⟨xn, xb⟩ := x
      simp only at x0 x1 hgo
      have hkI : (k : Int) < (n : Int) := by omega
      have HLT := Go.Lib.hid hlt
      have HO := Go.Lib.hid hO
      have HOL := Go.Lib.hid hOl
      have HGO := Go.Lib.hid hgo
      have HBW := Go.Lib.hid hbw
      have hq := str_ne xn nm
      have hltb : Op.bytesLess xn.toList nm.toList = ltN xn nm := rfl
      have hal1 := newB wr (.cells #[.string nm, .string (str b)] 85)
      have hal2 := newB wr (.cells #[.string xn, .string (str xb)] 85)
      have HO1 := Go.Lib.hid (hO.below hal1)
      have HB1 := Go.Lib.hid (below_to hbw (Nat.le_refl _) hal1)
      have HN1 := Go.Lib.hid (show (wr.alloc (.cells #[.string nm, .string (str b)] 85)).heap[wr.heap.size]? = some (.cells (efl (nm, b)).toArray 85) from heap_alloc_new wr _)
      have HO2 := Go.Lib.hid (hO.below hal2)
      have HB2 := Go.Lib.hid (below_to hbw (Nat.le_refl _) hal2)
      have HN2 := Go.Lib.hid (show (wr.alloc (.cells #[.string xn, .string (str xb)] 85)).heap[wr.heap.size]? = some (.cells (efl (xn, xb)).toArray 85) from heap_alloc_new wr _)
      have HLK := Go.Lib.hid (show k ≤ 400 by have := HL.out; omega)
      have HCC := Go.Lib.hid (show ∀ W, Below w.heap.size w W → W.cell? ⟨g, k * 2, none⟩ = some (.string xn) ∧ W.cell? ⟨g, k * 2 + 1, none⟩ = some (.string (str xb)) from fun W hW => ⟨(HCX.out W hW).1, (HCX.out W hW).2⟩)
      clear hO hOl hgo hbw hlt hk hkL hdrop hal1 hal2
      cases dn with
      | true =>
        by_cases he : xn = nm
        · have hqb : (xn.toList == nm.toList) = true := by rw [hq, decide_eq_true he]
          have hgo := HGO.out
          rw [if_pos he] at hgo
          replace HGO := Go.Lib.hid hgo
          clear hq he hgo
          clear hltb
          go_wp2_with (first
            | fail)
          go_roundw
          case rel => exact ⟨k + 1, _, _, _, rfl, by have := HLT.out; omega, by go_num, rfl, HO.out, by have := HOL.out; first | omega | (simp only [List.length_append, List.length_cons, List.length_nil]; omega), by have h := HGO.out; simpa using h, HBW.out⟩
          case measure => simp only [intOf]; have := HLT.out; omega
        · have hqb : (xn.toList == nm.toList) = false := by rw [hq, decide_eq_false he]
          have hgo := HGO.out
          rw [if_neg he] at hgo
          replace HGO := Go.Lib.hid hgo
          clear hq he hgo
          clear hltb
          go_wp2_with (first
            | (with_reducible show wpList _ _ _ (⟨some 49, _, _, _, _, _⟩ :: _) _ _; go_must (refine wpList_append_file rfl (.tmp 43) (.tmp 48) rfl w.heap.size u O (xn, xb) wr.heap.size (0, 0) rfl rfl HO2.out HN2.out (by have := HOL.out; have := HLK.out; first | omega | (simp only [List.length_append, List.length_cons, List.length_nil]; omega)) HB2.out.size ?_); intro v6 w6 ho6 hg6; have HO6 := Go.Lib.hid ho6; go_must (have HB6 := Go.Lib.hid (HB2.out.grown hg6 HB2.out.size (OwnF.row HO2.out))); clear ho6 hg6)
            | fail)
          go_roundw
          case rel => exact ⟨k + 1, _, _, _, rfl, by have := HLT.out; omega, by go_num, rfl, HO6.out, by have := HOL.out; first | omega | (simp only [List.length_append, List.length_cons, List.length_nil]; omega), by have h := HGO.out; simpa using h, HB6.out⟩
          case measure => simp only [intOf]; have := HLT.out; omega
      | false =>
        cases hl : ltN xn nm with
        | true =>
          have he : ¬ xn = nm := ltN_ne hl
          have hqb : (xn.toList == nm.toList) = false := by rw [hq, decide_eq_false he]
          rw [hl] at hltb
          have hgo := HGO.out
          rw [hl] at hgo
          rw [if_neg he] at hgo
          replace HGO := Go.Lib.hid hgo
          clear hq he hgo hl
          go_wp2_with (first
            | (with_reducible show wpList _ _ _ (⟨some 49, _, _, _, _, _⟩ :: _) _ _; go_must (refine wpList_append_file rfl (.tmp 43) (.tmp 48) rfl w.heap.size u O (xn, xb) wr.heap.size (0, 0) rfl rfl HO2.out HN2.out (by have := HOL.out; have := HLK.out; first | omega | (simp only [List.length_append, List.length_cons, List.length_nil]; omega)) HB2.out.size ?_); intro v6 w6 ho6 hg6; have HO6 := Go.Lib.hid ho6; go_must (have HB6 := Go.Lib.hid (HB2.out.grown hg6 HB2.out.size (OwnF.row HO2.out))); clear ho6 hg6)
            | fail)
          go_roundw
          case rel => exact ⟨k + 1, _, _, _, rfl, by have := HLT.out; omega, by go_num, rfl, HO6.out, by have := HOL.out; first | omega | (simp only [List.length_append, List.length_cons, List.length_nil]; omega), by have h := HGO.out; simpa using h, HB6.out⟩
          case measure => simp only [intOf]; have := HLT.out; omega
        | false =>
          by_cases he : xn = nm
          · have hqb : (xn.toList == nm.toList) = true := by rw [hq, decide_eq_true he]
            rw [hl] at hltb
            have hgo := HGO.out
            rw [hl] at hgo
            rw [if_pos he] at hgo
            replace HGO := Go.Lib.hid hgo
            clear hq he hgo hl
            go_wp2_with (first
              | (with_reducible show wpList _ _ _ (⟨some 35, _, _, _, _, _⟩ :: _) _ _; go_must (refine wpList_append_file rfl (.tmp 30) (.tmp 34) rfl w.heap.size u O (nm, b) wr.heap.size (0, 0) rfl rfl HO1.out HN1.out (by have := HOL.out; have := HLK.out; omega) HB1.out.size ?_); intro v5 w5 ho5 hg5; have HO5 := Go.Lib.hid ho5; go_must (have HB5 := Go.Lib.hid (HB1.out.grown hg5 HB1.out.size HO1.out.row)); go_must (obtain ⟨y0, y1⟩ := HCC.out w5 HB5.out); clear ho5 hg5)
              | fail)
            go_roundw
            case rel => exact ⟨k + 1, _, _, _, rfl, by have := HLT.out; omega, by go_num, rfl, HO5.out, by have := HOL.out; first | omega | (simp only [List.length_append, List.length_cons, List.length_nil]; omega), by have h := HGO.out; simpa using h, HB5.out⟩
            case measure => simp only [intOf]; have := HLT.out; omega
          · have hqb : (xn.toList == nm.toList) = false := by rw [hq, decide_eq_false he]
            rw [hl] at hltb
            have hgo := HGO.out
            rw [hl] at hgo
            rw [if_neg he] at hgo
            replace HGO := Go.Lib.hid hgo
            clear hq he hgo hl
            go_wp2_with (first
              | (with_reducible show wpList _ _ _ (⟨some 35, _, _, _, _, _⟩ :: _) _ _; go_must (refine wpList_append_file rfl (.tmp 30) (.tmp 34) rfl w.heap.size u O (nm, b) wr.heap.size (0, 0) rfl rfl HO1.out HN1.out (by have := HOL.out; have := HLK.out; omega) HB1.out.size ?_); intro v5 w5 ho5 hg5; have HO5 := Go.Lib.hid ho5; go_must (have HB5 := Go.Lib.hid (HB1.out.grown hg5 HB1.out.size HO1.out.row)); go_must (obtain ⟨y0, y1⟩ := HCC.out w5 HB5.out); clear ho5 hg5)
              | (with_reducible show wpList _ _ _ (⟨some 49, _, _, _, _, _⟩ :: _) _ _; go_must (refine wpList_append_file rfl (.tmp 43) (.tmp 48) rfl w.heap.size v5 (O ++ [(nm, b)]) (xn, xb) w5.heap.size (0, 0) rfl rfl (HO5.out.below (newB w5 (.cells #[.string xn, .string (str xb)] 85))) (newF w5 xn xb) (by have := HOL.out; have := HLK.out; first | omega | (simp only [List.length_append, List.length_cons, List.length_nil]; omega)) (below_to HB5.out (Nat.le_refl _) (newB w5 (.cells #[.string xn, .string (str xb)] 85))).size ?_); intro v6 w6 ho6 hg6; have HO6 := Go.Lib.hid ho6; go_must (have HB6 := Go.Lib.hid ((below_to HB5.out (Nat.le_refl _) (newB w5 (.cells #[.string xn, .string (str xb)] 85))).grown hg6 (below_to HB5.out (Nat.le_refl _) (newB w5 (.cells #[.string xn, .string (str xb)] 85))).size (OwnF.row (HO5.out.below (newB w5 (.cells #[.string xn, .string (str xb)] 85)))))); clear ho6 hg6)
              | fail)
            go_roundw
            case rel => exact ⟨k + 1, _, _, _, rfl, by have := HLT.out; omega, by go_num, rfl, HO6.out, by have := HOL.out; first | omega | (simp only [List.length_append, List.length_cons, List.length_nil]; omega), by have h := HGO.out; simpa using h, HB6.out⟩
            case measure => simp only [intOf]; have := HLT.out; omega
    · obtain rfl : k = n := by omega
      have hd : L.drop k = [] := List.drop_of_length_le (by have := HN.out; omega)
      rw [hd] at hgo
      have HO := Go.Lib.hid hO
      have HBW := Go.Lib.hid hbw
      have HLO := Go.Lib.hid (show O.length ≤ 1000 ∨ True from .inr trivial)
      cases dn with
      | true =>
        rw [show putGo nm b true [] = [] from rfl, List.append_nil] at hgo
        have HGO := Go.Lib.hid hgo
        clear hgo hO hbw hOl hd
        go_wp2_with fail
        go_ret
        exact ⟨_, rfl, by rw [← HGO.out]; exact HO.out, HBW.out⟩
      | false =>
        rw [show putGo nm b false [] = [(nm, b)] from rfl] at hgo
        have HGO := Go.Lib.hid hgo
        have hal1 := newB wr (.cells #[.string nm, .string (str b)] 85)
        have HO1 := Go.Lib.hid (hO.below hal1)
        have HB1 := Go.Lib.hid (below_to hbw (Nat.le_refl _) hal1)
        have HN1 := Go.Lib.hid (show (wr.alloc (.cells #[.string nm, .string (str b)] 85)).heap[wr.heap.size]? = some (.cells (efl (nm, b)).toArray 85) from heap_alloc_new wr _)
        have HOL := Go.Lib.hid hOl
        clear hgo hO hbw hOl hal1 hd
        go_wp2_with (first
          | (with_reducible show wpList _ _ _ (⟨some 57, _, _, _, _, _⟩ :: _) _ _; go_must (refine wpList_append_file rfl (.tmp 52) (.tmp 56) rfl w.heap.size u O (nm, b) wr.heap.size (0, 0) rfl rfl HO1.out HN1.out (by have := HOL.out; have := HL.out; have := HN.out; omega) HB1.out.size ?_); intro v5 w5 ho5 hg5; have HO5 := Go.Lib.hid ho5; have HB5 := Go.Lib.hid (HB1.out.grown hg5 HB1.out.size HO1.out.row); clear ho5 hg5)
          | fail)
        go_ret
        exact ⟨_, rfl, by rw [← HGO.out]; exact HO5.out, HB5.out⟩
end

end Go.Proofs.YtnalokjnbccjnaaGreatDoor

namespace Go.Proofs.YtnalokjnbccjnaaGreatDoor
open Go.RowKit

theorem set_len (nm : ByteArray) (b : List UInt8) : ∀ (dn : Bool) (L : FL), (putGo nm b dn L).length ≤ L.length + (if dn = true then 0 else 1)
  | true, [] => by simp [putGo]
  | false, [] => by simp [putGo]
  | true, x :: L => by
    have ih := set_len nm b true L
    rw [putGo_step]
    simp only [List.length_append, List.length_cons, Bool.true_or]
    simp only [if_true] at ih ⊢
    have h1 : (if x.1 = nm then [] else [x] : FL).length ≤ 1 := by split <;> simp
    have h2 : (if true = false ∧ ltN x.1 nm = false then [(nm, b)] else [] : FL).length = 0 := by simp
    omega
  | false, x :: L => by
    rw [putGo_step]
    simp only [List.length_append, List.length_cons, Bool.false_or]
    have h1 : (if x.1 = nm then [] else [x] : FL).length ≤ 1 := by split <;> simp
    cases h : ltN x.1 nm with
    | true =>
      have ih := set_len nm b false L
      simp only [Bool.not_true] at ih ⊢
      simp at ih ⊢
      omega
    | false =>
      have ih := set_len nm b true L
      simp only [Bool.not_false] at ih ⊢
      simp at ih ⊢
      omega
theorem LW.turn {w : World} {M s d g p n t t' : Nat} {L : Life} {X : FL} (h : LW w M s d g p n L t X) (ht : t ≤ t') : LW w M s d g p n L t' X := by
  obtain ⟨F, f, es, ls, h1, h2, h3⟩ := h.out
  exact ⟨⟨F, f, es, ls, h1, h2, Nat.le_trans h3 ht⟩⟩
theorem set_mem {nm : ByteArray} {b : List UInt8} {gone : Bool} {L : FL} {y : ByteArray × List UInt8} (h : y ∈ setL L nm b gone) : y = (nm, b) ∨ y ∈ L := by
  unfold setL at h
  cases gone
  · rcases set_false_mem h with h | h
    · exact .inl h
    · exact .inr h.1
  · exact .inr (set_true_mem h).1
def VHsA (bn on m cn q c0 k : Nat) (xn yn : ByteArray) (_xb _yb : List UInt8) (_vx : Value) : Nat → World → Value → Prop
  | 31, _, v => v = .slice (some ⟨bn, on, none⟩) m cn
  | 32, _, v => v = .int .i64 (k : Int)
  | 33, _, v => v = .pointer (some ⟨bn, on + k, none⟩)
  | 34, _, v => v = .string xn
  | 35, _, v => v = .slice (some ⟨q, 0, none⟩) m c0
  | 36, _, v => v = .int .i64 (k : Int)
  | 37, _, v => v = .pointer (some ⟨q, k * 2, none⟩)
  | 38, _, v => v = .pointer (some ⟨q, k * 2, none⟩)
  | 39, _, v => v = .string yn
  | 40, _, v => v = .bool true
  | 41, _, v => v = .bool true
  | 42, _, v => v = undef
  | 43, _, v => v = undef
  | 44, _, v => v = .bool true
  | 45, _, v => v = .bool true
  | 46, _, v => v = undef
  | 47, _, v => v = undef
  | 48, _, v => v = undef
  | 49, _, v => v = undef
  | 50, _, v => v = undef
  | 51, _, v => v = undef
  | 52, _, v => v = undef
  | 53, _, v => v = undef
  | 54, _, v => v = .bool true
  | _, _, _ => True

theorem VHsA_below (bn on m cn q c0 k : Nat) (xn yn : ByteArray) (xb yb : List UInt8) (vx : Value) : ∀ (i : Nat) (w w' : World) (v : Value), VHsA bn on m cn q c0 k xn yn xb yb vx i w v → Below w.heap.size w w' → VHsA bn on m cn q c0 k xn yn xb yb vx i w' v := by
  intro i w w' v h hb
  unfold VHsA at h ⊢
  split at h <;> first | exact h | trivial | exact RB.below h hb | exact Own.below h hb | exact OwnV.below h hb

def VHsB (bn on m cn q c0 k : Nat) (xn yn : ByteArray) (xb yb : List UInt8) (vx : Value) : Nat → World → Value → Prop
  | 31, _, v => v = .slice (some ⟨bn, on, none⟩) m cn
  | 32, _, v => v = .int .i64 (k : Int)
  | 33, _, v => v = .pointer (some ⟨bn, on + k, none⟩)
  | 34, _, v => v = .string xn
  | 35, _, v => v = .slice (some ⟨q, 0, none⟩) m c0
  | 36, _, v => v = .int .i64 (k : Int)
  | 37, _, v => v = .pointer (some ⟨q, k * 2, none⟩)
  | 38, _, v => v = .pointer (some ⟨q, k * 2, none⟩)
  | 39, _, v => v = .string yn
  | 40, _, v => v = .bool false
  | 41, _, v => v = .bool false
  | 42, _, v => v = .int .i64 0
  | 43, _, v => v = .bool false
  | 44, _, v => v = .bool false
  | 45, _, v => v = .bool false
  | 46, _, v => v = vx
  | 47, _, v => v = .string (str xb)
  | 48, _, v => v = .slice (some ⟨q, 0, none⟩) m c0
  | 49, _, v => v = .int .i64 (k : Int)
  | 50, _, v => v = .pointer (some ⟨q, k * 2, none⟩)
  | 51, _, v => v = .pointer (some ⟨q, k * 2 + 1, none⟩)
  | 52, _, v => v = .string (str yb)
  | 53, _, v => v = .bool true
  | 54, _, v => v = .bool true
  | _, _, _ => True

theorem VHsB_below (bn on m cn q c0 k : Nat) (xn yn : ByteArray) (xb yb : List UInt8) (vx : Value) : ∀ (i : Nat) (w w' : World) (v : Value), VHsB bn on m cn q c0 k xn yn xb yb vx i w v → Below w.heap.size w w' → VHsB bn on m cn q c0 k xn yn xb yb vx i w' v := by
  intro i w w' v h hb
  unfold VHsB at h ⊢
  split at h <;> first | exact h | trivial | exact RB.below h hb | exact Own.below h hb | exact OwnV.below h hb

def VHsC (bn on m cn q c0 k : Nat) (xn yn : ByteArray) (xb yb : List UInt8) (vx : Value) : Nat → World → Value → Prop
  | 31, _, v => v = .slice (some ⟨bn, on, none⟩) m cn
  | 32, _, v => v = .int .i64 (k : Int)
  | 33, _, v => v = .pointer (some ⟨bn, on + k, none⟩)
  | 34, _, v => v = .string xn
  | 35, _, v => v = .slice (some ⟨q, 0, none⟩) m c0
  | 36, _, v => v = .int .i64 (k : Int)
  | 37, _, v => v = .pointer (some ⟨q, k * 2, none⟩)
  | 38, _, v => v = .pointer (some ⟨q, k * 2, none⟩)
  | 39, _, v => v = .string yn
  | 40, _, v => v = .bool false
  | 41, _, v => v = .bool false
  | 42, _, v => v = .int .i64 0
  | 43, _, v => v = .bool false
  | 44, _, v => v = .bool false
  | 45, _, v => v = .bool false
  | 46, _, v => v = vx
  | 47, _, v => v = .string (str xb)
  | 48, _, v => v = .slice (some ⟨q, 0, none⟩) m c0
  | 49, _, v => v = .int .i64 (k : Int)
  | 50, _, v => v = .pointer (some ⟨q, k * 2, none⟩)
  | 51, _, v => v = .pointer (some ⟨q, k * 2 + 1, none⟩)
  | 52, _, v => v = .string (str yb)
  | 53, _, v => v = .bool false
  | 54, _, v => v = .bool false
  | _, _, _ => True

theorem VHsC_below (bn on m cn q c0 k : Nat) (xn yn : ByteArray) (xb yb : List UInt8) (vx : Value) : ∀ (i : Nat) (w w' : World) (v : Value), VHsC bn on m cn q c0 k xn yn xb yb vx i w v → Below w.heap.size w w' → VHsC bn on m cn q c0 k xn yn xb yb vx i w' v := by
  intro i w w' v h hb
  unfold VHsC at h ⊢
  split at h <;> first | exact h | trivial | exact RB.below h hb | exact Own.below h hb | exact OwnV.below h hb

theorem run_idxS (b o n cap j : Nat) (h : j < n) (W : World) : (Instr.indexAt 49 (.slice (some ⟨b, o, none⟩) n cap) (.int .i64 (j : Int))).run Tryz.prog W = .ok (.pointer (some ⟨b, o + j, none⟩)) W := by
  obtain ⟨i, hi, -, hsize, -⟩ := info_parts infoStr
  have he : Tryz.prog.elem 49 = 9 := by kernel_rfl
  have hs : (sizeOf 9).run Tryz.prog W = .ok 1 W := by simp [sizeOf, typeInfo, hi, hsize]
  have hadd : (⟨b, o, none⟩ : Addr).add j = ⟨b, o + j, none⟩ := by unfold Addr.add; split <;> simp_all
  rw [run_indexAt_slice W _ _ _ _ _ _ (by rw [he]; exact Tryz.underlying49), if_pos ⟨by omega, by omega⟩, he, hs]
  simp [Result.andThen, hadd]
theorem run_idxL (b n cap j : Nat) (h : j < n) (W : World) : (Instr.indexAt 30 (.slice (some ⟨b, 0, none⟩) n cap) (.int .i64 (j : Int))).run Tryz.prog W = .ok (.pointer (some ⟨b, j * 2, none⟩)) W := by
  obtain ⟨i, hi, -, hsize, -⟩ := info_parts infoFl
  have he : Tryz.prog.elem 30 = 85 := by kernel_rfl
  have hs : (sizeOf 85).run Tryz.prog W = .ok 2 W := by simp [sizeOf, typeInfo, hi, hsize]
  have hadd : (⟨b, 0, none⟩ : Addr).add (j * 2) = ⟨b, j * 2, none⟩ := by unfold Addr.add; split <;> simp_all
  rw [run_indexAt_slice W _ _ _ _ _ _ (by rw [he]; exact Tryz.underlying30), if_pos ⟨by omega, by omega⟩, he, hs]
  simp [Result.andThen, hadd]

section
variable {w : World} {M B s d g p n t : Nat} {L : Life} {X : FL}
set_option maxHeartbeats 8000000 in
set_option maxRecDepth 100000 in
theorem has_c (h : LW w M s d g p n L t X) (v : Value) (N : FL) (hv : OwnF w B v N) (hN : N.length ≤ 400) :
    Calls Tryz.prog 17 #[.pointer (some ⟨s, 0, none⟩), v] w fun e w' => ∃ r : Bool, e = .returned (.bool r) ∧ (r = true ↔ X = N) ∧ Below w.heap.size w w' := by
  obtain ⟨a0, c0, rfl⟩ := hv.form
  have H := Go.Lib.hid h
  have HV := Go.Lib.hid hv
  have C1 := Go.Lib.hid (names_ok h)
  obtain ⟨m, hm⟩ : ∃ m, m = N.length := ⟨_, rfl⟩
  rw [← hm] at HV ⊢
  have HM := Go.Lib.hid hm
  have hmI : (m : Int) ≤ 400 := by omega
  clear h hv hN hm
  go_enter Tryz.func17, Tryz.ntmps17
  go_wp2_with fail
  refine C1.out.mono ?_
  rintro e w1 ⟨vn, rfl, hon, hb1⟩
  obtain ⟨an, cn, rfl, -⟩ := hon.rv.form
  rw [List.length_map] at hon ⊢
  have HON := Go.Lib.hid hon
  have HB1 := Go.Lib.hid hb1
  clear hon hb1 C1
  by_cases hlen : X.length = m
  · rw [hlen] at HON ⊢
    have HXL := Go.Lib.hid hlen
    clear hlen
    go_wp2_with fail
    go_loopw [6] (fun i wr => ∃ k : Nat, k ≤ m ∧ i = .int .i64 (k : Int) ∧ X.take k = N.take k ∧ Below w1.heap.size w1 wr) (fun i _ => m - (intOf i).toNat)
    case atStart => exact ⟨0, by omega, rfl, rfl, Below.refl _ _⟩
    case round =>
      obtain ⟨k, hk, rfl, htk, hbw⟩ := hrel
      by_cases hlt : k < m
      · have hkX : k < X.length := by have := HXL.out; omega
        have hkN : k < N.length := by have := HM.out; omega
        obtain ⟨bn, on, rfl, z0, -⟩ := (HON.out.below hbw).rv.at k (by rw [List.length_map]; exact hkX)
        rw [List.getElem_map] at z0
        have hbt := below_to HB1.out (Nat.le_refl _) hbw
        have hlw := H.out.below hbt
        have hfx := look_of H.out.rise (List.getElem_mem hkX : X[k] ∈ X)
        have CG := Go.Lib.hid (get_ok hlw X[k].1 X[k].2 hfx)
        have hsx : X.take (k + 1) = X.take k ++ [X[k]] := List.take_succ_eq_append_getElem hkX
        have hsn : N.take (k + 1) = N.take k ++ [N[k]] := List.take_succ_eq_append_getElem hkN
        have HROW := Go.Lib.hid (show ∀ W, Below w.heap.size w W → ∃ q, a0 = some ⟨q, 0, none⟩ ∧ W.cell? ⟨q, k * 2, none⟩ = some (.string N[k].1) ∧ W.cell? ⟨q, k * 2 + 1, none⟩ = some (.string (str N[k].2)) from fun W hW => (HV.out.below hW).at k hkN)
        have hne : X[k] ≠ N[k] → X ≠ N := fun e1 e2 => e1 (by subst e2; rfl)
        generalize X[k] = x at *
        generalize N[k] = y at *
        obtain ⟨xn, xb⟩ := x
        obtain ⟨yn, yb⟩ := y
        simp only at z0 CG HROW
        have hkI : (k : Int) < (m : Int) := by omega
        have HLT := Go.Lib.hid hlt
        have HTK := Go.Lib.hid htk
        have HBW := Go.Lib.hid hbw
        have HBT := Go.Lib.hid hbt
        have HST := Go.Lib.hid (And.intro hsx hsn)
        have HNE := Go.Lib.hid hne
        have HZ := Go.Lib.hid z0
        have HIS := Go.Lib.hid (run_idxS bn on m cn k HLT.out)
        clear htk hbw hbt hlw hfx hsx hsn hne hlt hk hkX hkN
        go_wp2_with fail
        refine CG.out.mono ?_
        rintro e w3 ⟨vx, rfl, hox, hb3⟩
        have hb03 := below_to HBT.out (Nat.le_refl _) hb3
        obtain ⟨q, rfl, y0, y1⟩ := HROW.out w3 hb03
        have HIL := Go.Lib.hid (run_idxL q m c0 k HLT.out)
        have HC3 := Go.Lib.hid (show ∀ W, Below w3.heap.size w3 W → W.cell? ⟨bn, on + k, none⟩ = some (.string xn) ∧ W.cell? ⟨q, k * 2, none⟩ = some (.string yn) ∧ W.cell? ⟨q, k * 2 + 1, none⟩ = some (.string (str yb)) from fun W hW => ⟨keptC HZ.out (below_to hb3 (Nat.le_refl _) hW), keptC y0 hW, keptC y1 hW⟩)
        have HOX := Go.Lib.hid (show ∀ W, Below w3.heap.size w3 W → RB W vx xb from fun W hW => (hox.below hW).rb)
        have HB3 := Go.Lib.hid (And.intro hb03 (below_to HBW.out (Nat.le_refl _) hb3))
        clear hox hb3 hb03 CG y0 y1 z0
        have e1 := str_ne xn yn
        have e2 : ((str xb).toList == (str yb).toList) = decide (xb = yb) := by
          rw [str_ne]
          by_cases hh : xb = yb
          · rw [hh]; simp
          · rw [decide_eq_false hh, decide_eq_false (fun h => hh (str_inj h))]
        by_cases hn : xn = yn
        · rw [decide_eq_true hn] at e1
          by_cases hb : xb = yb
          · rw [decide_eq_true hb] at e2
            have HEQ := Go.Lib.hid (And.intro hn hb)
            have E12 := Go.Lib.hid (And.intro e1 e2)
            clear hn hb
            clear e1 e2
            go_upto_region 8 with (fail)
            refine wp_region_each (by kernel_rfl) (VHsC bn on m cn q c0 k xn yn xb yb vx) (VHsC_below bn on m cn q c0 k xn yn xb yb vx) (by decide +kernel) (by decide +kernel) (by rfl) [31, 32, 33, 34, 35, 36, 37, 38, 39, 40, 41, 42, 43, 44, 45, 46, 47, 48, 49, 50, 51, 52, 53, 54] (by rfl) ?_ ?_
            · intro i o ho a w6 hb6 hlen hg
              have hcc := HC3.out w6 hb6
              have he12 := E12.out
              match i, ho with
              | 0, ho =>
                obtain rfl := Option.some.inj ho
                have h5 := given_old hg 5 (by decide +kernel)
                clear hg
                exact st_yield ho (wanted_none rfl) (.slice (some ⟨bn, on, none⟩) m cn) w6 (by simp [execOp, Act.eval, h5, go_sem]) ⟨_, rfl, Below.refl _ _, by rintro t' ⟨⟩; rfl⟩
              | 1, ho =>
                obtain rfl := Option.some.inj ho
                have h6 := given_old hg 6 (by decide +kernel)
                clear hg
                exact st_yield ho (wanted_none rfl) (.int .i64 (k : Int)) w6 (by simp [execOp, Act.eval, h6, go_sem]) ⟨_, rfl, Below.refl _ _, by rintro t' ⟨⟩; rfl⟩
              | 2, ho =>
                obtain rfl := Option.some.inj ho
                obtain ⟨_, h31, rfl⟩ := given_fed hg 31 (by decide +kernel)
                obtain ⟨_, h32, rfl⟩ := given_fed hg 32 (by decide +kernel)
                clear hg
                exact st_yield ho (wanted_none rfl) (.pointer (some ⟨bn, on + k, none⟩)) w6 (by simp [execOp, Act.eval, h31, h32, go_sem, HIS.out, Result.andThen]) ⟨_, rfl, Below.refl _ _, by rintro t' ⟨⟩; rfl⟩
              | 3, ho =>
                obtain rfl := Option.some.inj ho
                obtain ⟨_, h33, rfl⟩ := given_fed hg 33 (by decide +kernel)
                clear hg
                exact st_yield ho (wanted_none rfl) (.string xn) w6 (by simp [execOp, Act.eval, h33, go_sem, hcc.1]) ⟨_, rfl, Below.refl _ _, by rintro t' ⟨⟩; rfl⟩
              | 4, ho =>
                obtain rfl := Option.some.inj ho
                have h1 := given_old hg 1 (by decide +kernel)
                clear hg
                exact st_yield ho (wanted_none rfl) (.slice (some ⟨q, 0, none⟩) m c0) w6 (by simp [execOp, Act.eval, h1, go_sem]) ⟨_, rfl, Below.refl _ _, by rintro t' ⟨⟩; rfl⟩
              | 5, ho =>
                obtain rfl := Option.some.inj ho
                have h6 := given_old hg 6 (by decide +kernel)
                clear hg
                exact st_yield ho (wanted_none rfl) (.int .i64 (k : Int)) w6 (by simp [execOp, Act.eval, h6, go_sem]) ⟨_, rfl, Below.refl _ _, by rintro t' ⟨⟩; rfl⟩
              | 6, ho =>
                obtain rfl := Option.some.inj ho
                obtain ⟨_, h35, rfl⟩ := given_fed hg 35 (by decide +kernel)
                obtain ⟨_, h36, rfl⟩ := given_fed hg 36 (by decide +kernel)
                clear hg
                exact st_yield ho (wanted_none rfl) (.pointer (some ⟨q, k * 2, none⟩)) w6 (by simp [execOp, Act.eval, h35, h36, go_sem, HIL.out, Result.andThen]) ⟨_, rfl, Below.refl _ _, by rintro t' ⟨⟩; rfl⟩
              | 7, ho =>
                obtain rfl := Option.some.inj ho
                obtain ⟨_, h37, rfl⟩ := given_fed hg 37 (by decide +kernel)
                clear hg
                exact st_yield ho (wanted_none rfl) (.pointer (some ⟨q, k * 2, none⟩)) w6 (by simp [execOp, Act.eval, h37, go_sem]) ⟨_, rfl, Below.refl _ _, by rintro t' ⟨⟩; rfl⟩
              | 8, ho =>
                obtain rfl := Option.some.inj ho
                obtain ⟨_, h38, rfl⟩ := given_fed hg 38 (by decide +kernel)
                clear hg
                exact st_yield ho (wanted_none rfl) (.string yn) w6 (by simp [execOp, Act.eval, h38, go_sem, hcc.2.1]) ⟨_, rfl, Below.refl _ _, by rintro t' ⟨⟩; rfl⟩
              | 9, ho =>
                obtain rfl := Option.some.inj ho
                obtain ⟨_, h34, rfl⟩ := given_fed hg 34 (by decide +kernel)
                obtain ⟨_, h39, rfl⟩ := given_fed hg 39 (by decide +kernel)
                clear hg
                exact st_yield ho (wanted_none rfl) (.bool false) w6 (by simp [execOp, Act.eval, h34, h39, go_sem, he12.1]) ⟨_, rfl, Below.refl _ _, by rintro t' ⟨⟩; rfl⟩
              | 10, ho =>
                obtain rfl := Option.some.inj ho
                obtain ⟨_, h40, rfl⟩ := given_fed hg 40 (by decide +kernel)
                clear hg
                exact st_yield ho (wanted_none rfl) (.bool false) w6 (by simp [execOp, Act.eval, h40, go_sem]) ⟨_, rfl, Below.refl _ _, by rintro t' ⟨⟩; rfl⟩
              | 11, ho =>
                obtain rfl := Option.some.inj ho
                have h8 := given_old hg 8 (by decide +kernel)
                obtain ⟨_, h41, rfl⟩ := given_fed hg 41 (by decide +kernel)
                clear hg
                exact st_yield ho (wanted_some rfl rfl h41 rfl) (.int .i64 0) w6 (by simp [execOp, Act.eval, h8, go_sem]) ⟨_, rfl, Below.refl _ _, by rintro t' ⟨⟩; rfl⟩
              | 12, ho =>
                obtain rfl := Option.some.inj ho
                obtain ⟨_, h42, rfl⟩ := given_fed hg 42 (by decide +kernel)
                obtain ⟨_, h41, rfl⟩ := given_fed hg 41 (by decide +kernel)
                clear hg
                exact st_yield ho (wanted_some rfl rfl h41 rfl) (.bool false) w6 (by simp [execOp, Act.eval, h42, go_sem]) ⟨_, rfl, Below.refl _ _, by rintro t' ⟨⟩; rfl⟩
              | 13, ho =>
                obtain rfl := Option.some.inj ho
                obtain ⟨_, h41, rfl⟩ := given_fed hg 41 (by decide +kernel)
                obtain ⟨_, h43, rfl⟩ := given_fed hg 43 (by decide +kernel)
                clear hg
                exact st_yield ho (wanted_none rfl) (.bool false) w6 (by simp [execOp, Act.eval, h41, h43, go_sem]) ⟨_, rfl, Below.refl _ _, by rintro t' ⟨⟩; rfl⟩
              | 14, ho =>
                obtain rfl := Option.some.inj ho
                obtain ⟨_, h44, rfl⟩ := given_fed hg 44 (by decide +kernel)
                clear hg
                exact st_yield ho (wanted_none rfl) (.bool false) w6 (by simp [execOp, Act.eval, h44, go_sem]) ⟨_, rfl, Below.refl _ _, by rintro t' ⟨⟩; rfl⟩
              | 15, ho =>
                obtain rfl := Option.some.inj ho
                have h7 := given_old hg 7 (by decide +kernel)
                obtain ⟨_, h45, rfl⟩ := given_fed hg 45 (by decide +kernel)
                clear hg
                exact st_yield ho (wanted_some rfl rfl h45 rfl) (vx) w6 (by simp [execOp, Act.eval, h7, go_sem]) ⟨_, rfl, Below.refl _ _, by rintro t' ⟨⟩; rfl⟩
              | 16, ho =>
                obtain rfl := Option.some.inj ho
                obtain ⟨v46', h46, p46⟩ := given_fed hg 46 (by decide +kernel)
                have p46 : v46' = vx := p46
                rw [p46] at h46
                obtain ⟨_, h45, rfl⟩ := given_fed hg 45 (by decide +kernel)
                clear hg
                have cv := run_string_RB w6 45 5 9 Tryz.underlying45 Tryz.underlying5 Tryz.underlying9 vx xb (HOX.out w6 hb6)
                exact st_yield ho (wanted_some rfl rfl h45 rfl) (.string (str xb)) w6 (by simp [execOp, Act.eval, h46, go_sem, cv, Result.andThen]) ⟨_, rfl, Below.refl _ _, by rintro t' ⟨⟩; rfl⟩
              | 17, ho =>
                obtain rfl := Option.some.inj ho
                have h1 := given_old hg 1 (by decide +kernel)
                obtain ⟨_, h45, rfl⟩ := given_fed hg 45 (by decide +kernel)
                clear hg
                exact st_yield ho (wanted_some rfl rfl h45 rfl) (.slice (some ⟨q, 0, none⟩) m c0) w6 (by simp [execOp, Act.eval, h1, go_sem]) ⟨_, rfl, Below.refl _ _, by rintro t' ⟨⟩; rfl⟩
              | 18, ho =>
                obtain rfl := Option.some.inj ho
                have h6 := given_old hg 6 (by decide +kernel)
                obtain ⟨_, h45, rfl⟩ := given_fed hg 45 (by decide +kernel)
                clear hg
                exact st_yield ho (wanted_some rfl rfl h45 rfl) (.int .i64 (k : Int)) w6 (by simp [execOp, Act.eval, h6, go_sem]) ⟨_, rfl, Below.refl _ _, by rintro t' ⟨⟩; rfl⟩
              | 19, ho =>
                obtain rfl := Option.some.inj ho
                obtain ⟨_, h48, rfl⟩ := given_fed hg 48 (by decide +kernel)
                obtain ⟨_, h49, rfl⟩ := given_fed hg 49 (by decide +kernel)
                obtain ⟨_, h45, rfl⟩ := given_fed hg 45 (by decide +kernel)
                clear hg
                exact st_yield ho (wanted_some rfl rfl h45 rfl) (.pointer (some ⟨q, k * 2, none⟩)) w6 (by simp [execOp, Act.eval, h48, h49, go_sem, HIL.out, Result.andThen]) ⟨_, rfl, Below.refl _ _, by rintro t' ⟨⟩; rfl⟩
              | 20, ho =>
                obtain rfl := Option.some.inj ho
                obtain ⟨_, h50, rfl⟩ := given_fed hg 50 (by decide +kernel)
                obtain ⟨_, h45, rfl⟩ := given_fed hg 45 (by decide +kernel)
                clear hg
                exact st_yield ho (wanted_some rfl rfl h45 rfl) (.pointer (some ⟨q, k * 2 + 1, none⟩)) w6 (by simp [execOp, Act.eval, h50, go_sem]) ⟨_, rfl, Below.refl _ _, by rintro t' ⟨⟩; rfl⟩
              | 21, ho =>
                obtain rfl := Option.some.inj ho
                obtain ⟨_, h51, rfl⟩ := given_fed hg 51 (by decide +kernel)
                obtain ⟨_, h45, rfl⟩ := given_fed hg 45 (by decide +kernel)
                clear hg
                exact st_yield ho (wanted_some rfl rfl h45 rfl) (.string (str yb)) w6 (by simp [execOp, Act.eval, h51, go_sem, hcc.2.2]) ⟨_, rfl, Below.refl _ _, by rintro t' ⟨⟩; rfl⟩
              | 22, ho =>
                obtain rfl := Option.some.inj ho
                obtain ⟨_, h47, rfl⟩ := given_fed hg 47 (by decide +kernel)
                obtain ⟨_, h52, rfl⟩ := given_fed hg 52 (by decide +kernel)
                obtain ⟨_, h45, rfl⟩ := given_fed hg 45 (by decide +kernel)
                clear hg
                exact st_yield ho (wanted_some rfl rfl h45 rfl) (.bool false) w6 (by simp [execOp, Act.eval, h47, h52, go_sem, he12.2]) ⟨_, rfl, Below.refl _ _, by rintro t' ⟨⟩; rfl⟩
              | 23, ho =>
                obtain rfl := Option.some.inj ho
                obtain ⟨_, h45, rfl⟩ := given_fed hg 45 (by decide +kernel)
                obtain ⟨_, h53, rfl⟩ := given_fed hg 53 (by decide +kernel)
                clear hg
                exact st_yield ho (wanted_none rfl) (.bool false) w6 (by simp [execOp, Act.eval, h45, h53, go_sem]) ⟨_, rfl, Below.refl _ _, by rintro t' ⟨⟩; rfl⟩
              | n + 24, ho => simp at ho
            · intro f5 w6 hb6 hv
              have h54 := hv 54 (by decide)
              simp only [VHsC] at h54
              have HB6 := Go.Lib.hid (below_to HB3.out.2 (Nat.le_refl _) hb6)
              clear hv hb6
              unfold putAll
              simp only [List.foldl]
              simp only [h54]
              go_simp
              clear h54
              go_wp2_with fail
              go_roundw
              case rel => exact ⟨k + 1, by have := HLT.out; omega, by go_num, by rw [HST.out.1, HST.out.2, HTK.out, HEQ.out.1, HEQ.out.2], HB6.out⟩
              case measure => simp only [intOf]; have := HLT.out; omega
          · rw [decide_eq_false hb] at e2
            have HNQ := Go.Lib.hid (HNE.out (fun e => hb (congrArg Prod.snd e)))
            have E12 := Go.Lib.hid (And.intro e1 e2)
            clear hn hb e1 e2
            go_upto_region 8 with (fail)
            refine wp_region_each (by kernel_rfl) (VHsB bn on m cn q c0 k xn yn xb yb vx) (VHsB_below bn on m cn q c0 k xn yn xb yb vx) (by decide +kernel) (by decide +kernel) (by rfl) [31, 32, 33, 34, 35, 36, 37, 38, 39, 40, 41, 42, 43, 44, 45, 46, 47, 48, 49, 50, 51, 52, 53, 54] (by rfl) ?_ ?_
            · intro i o ho a w6 hb6 hlen hg
              have hcc := HC3.out w6 hb6
              have he12 := E12.out
              match i, ho with
              | 0, ho =>
                obtain rfl := Option.some.inj ho
                have h5 := given_old hg 5 (by decide +kernel)
                clear hg
                exact st_yield ho (wanted_none rfl) (.slice (some ⟨bn, on, none⟩) m cn) w6 (by simp [execOp, Act.eval, h5, go_sem]) ⟨_, rfl, Below.refl _ _, by rintro t' ⟨⟩; rfl⟩
              | 1, ho =>
                obtain rfl := Option.some.inj ho
                have h6 := given_old hg 6 (by decide +kernel)
                clear hg
                exact st_yield ho (wanted_none rfl) (.int .i64 (k : Int)) w6 (by simp [execOp, Act.eval, h6, go_sem]) ⟨_, rfl, Below.refl _ _, by rintro t' ⟨⟩; rfl⟩
              | 2, ho =>
                obtain rfl := Option.some.inj ho
                obtain ⟨_, h31, rfl⟩ := given_fed hg 31 (by decide +kernel)
                obtain ⟨_, h32, rfl⟩ := given_fed hg 32 (by decide +kernel)
                clear hg
                exact st_yield ho (wanted_none rfl) (.pointer (some ⟨bn, on + k, none⟩)) w6 (by simp [execOp, Act.eval, h31, h32, go_sem, HIS.out, Result.andThen]) ⟨_, rfl, Below.refl _ _, by rintro t' ⟨⟩; rfl⟩
              | 3, ho =>
                obtain rfl := Option.some.inj ho
                obtain ⟨_, h33, rfl⟩ := given_fed hg 33 (by decide +kernel)
                clear hg
                exact st_yield ho (wanted_none rfl) (.string xn) w6 (by simp [execOp, Act.eval, h33, go_sem, hcc.1]) ⟨_, rfl, Below.refl _ _, by rintro t' ⟨⟩; rfl⟩
              | 4, ho =>
                obtain rfl := Option.some.inj ho
                have h1 := given_old hg 1 (by decide +kernel)
                clear hg
                exact st_yield ho (wanted_none rfl) (.slice (some ⟨q, 0, none⟩) m c0) w6 (by simp [execOp, Act.eval, h1, go_sem]) ⟨_, rfl, Below.refl _ _, by rintro t' ⟨⟩; rfl⟩
              | 5, ho =>
                obtain rfl := Option.some.inj ho
                have h6 := given_old hg 6 (by decide +kernel)
                clear hg
                exact st_yield ho (wanted_none rfl) (.int .i64 (k : Int)) w6 (by simp [execOp, Act.eval, h6, go_sem]) ⟨_, rfl, Below.refl _ _, by rintro t' ⟨⟩; rfl⟩
              | 6, ho =>
                obtain rfl := Option.some.inj ho
                obtain ⟨_, h35, rfl⟩ := given_fed hg 35 (by decide +kernel)
                obtain ⟨_, h36, rfl⟩ := given_fed hg 36 (by decide +kernel)
                clear hg
                exact st_yield ho (wanted_none rfl) (.pointer (some ⟨q, k * 2, none⟩)) w6 (by simp [execOp, Act.eval, h35, h36, go_sem, HIL.out, Result.andThen]) ⟨_, rfl, Below.refl _ _, by rintro t' ⟨⟩; rfl⟩
              | 7, ho =>
                obtain rfl := Option.some.inj ho
                obtain ⟨_, h37, rfl⟩ := given_fed hg 37 (by decide +kernel)
                clear hg
                exact st_yield ho (wanted_none rfl) (.pointer (some ⟨q, k * 2, none⟩)) w6 (by simp [execOp, Act.eval, h37, go_sem]) ⟨_, rfl, Below.refl _ _, by rintro t' ⟨⟩; rfl⟩
              | 8, ho =>
                obtain rfl := Option.some.inj ho
                obtain ⟨_, h38, rfl⟩ := given_fed hg 38 (by decide +kernel)
                clear hg
                exact st_yield ho (wanted_none rfl) (.string yn) w6 (by simp [execOp, Act.eval, h38, go_sem, hcc.2.1]) ⟨_, rfl, Below.refl _ _, by rintro t' ⟨⟩; rfl⟩
              | 9, ho =>
                obtain rfl := Option.some.inj ho
                obtain ⟨_, h34, rfl⟩ := given_fed hg 34 (by decide +kernel)
                obtain ⟨_, h39, rfl⟩ := given_fed hg 39 (by decide +kernel)
                clear hg
                exact st_yield ho (wanted_none rfl) (.bool false) w6 (by simp [execOp, Act.eval, h34, h39, go_sem, he12.1]) ⟨_, rfl, Below.refl _ _, by rintro t' ⟨⟩; rfl⟩
              | 10, ho =>
                obtain rfl := Option.some.inj ho
                obtain ⟨_, h40, rfl⟩ := given_fed hg 40 (by decide +kernel)
                clear hg
                exact st_yield ho (wanted_none rfl) (.bool false) w6 (by simp [execOp, Act.eval, h40, go_sem]) ⟨_, rfl, Below.refl _ _, by rintro t' ⟨⟩; rfl⟩
              | 11, ho =>
                obtain rfl := Option.some.inj ho
                have h8 := given_old hg 8 (by decide +kernel)
                obtain ⟨_, h41, rfl⟩ := given_fed hg 41 (by decide +kernel)
                clear hg
                exact st_yield ho (wanted_some rfl rfl h41 rfl) (.int .i64 0) w6 (by simp [execOp, Act.eval, h8, go_sem]) ⟨_, rfl, Below.refl _ _, by rintro t' ⟨⟩; rfl⟩
              | 12, ho =>
                obtain rfl := Option.some.inj ho
                obtain ⟨_, h42, rfl⟩ := given_fed hg 42 (by decide +kernel)
                obtain ⟨_, h41, rfl⟩ := given_fed hg 41 (by decide +kernel)
                clear hg
                exact st_yield ho (wanted_some rfl rfl h41 rfl) (.bool false) w6 (by simp [execOp, Act.eval, h42, go_sem]) ⟨_, rfl, Below.refl _ _, by rintro t' ⟨⟩; rfl⟩
              | 13, ho =>
                obtain rfl := Option.some.inj ho
                obtain ⟨_, h41, rfl⟩ := given_fed hg 41 (by decide +kernel)
                obtain ⟨_, h43, rfl⟩ := given_fed hg 43 (by decide +kernel)
                clear hg
                exact st_yield ho (wanted_none rfl) (.bool false) w6 (by simp [execOp, Act.eval, h41, h43, go_sem]) ⟨_, rfl, Below.refl _ _, by rintro t' ⟨⟩; rfl⟩
              | 14, ho =>
                obtain rfl := Option.some.inj ho
                obtain ⟨_, h44, rfl⟩ := given_fed hg 44 (by decide +kernel)
                clear hg
                exact st_yield ho (wanted_none rfl) (.bool false) w6 (by simp [execOp, Act.eval, h44, go_sem]) ⟨_, rfl, Below.refl _ _, by rintro t' ⟨⟩; rfl⟩
              | 15, ho =>
                obtain rfl := Option.some.inj ho
                have h7 := given_old hg 7 (by decide +kernel)
                obtain ⟨_, h45, rfl⟩ := given_fed hg 45 (by decide +kernel)
                clear hg
                exact st_yield ho (wanted_some rfl rfl h45 rfl) (vx) w6 (by simp [execOp, Act.eval, h7, go_sem]) ⟨_, rfl, Below.refl _ _, by rintro t' ⟨⟩; rfl⟩
              | 16, ho =>
                obtain rfl := Option.some.inj ho
                obtain ⟨v46', h46, p46⟩ := given_fed hg 46 (by decide +kernel)
                have p46 : v46' = vx := p46
                rw [p46] at h46
                obtain ⟨_, h45, rfl⟩ := given_fed hg 45 (by decide +kernel)
                clear hg
                have cv := run_string_RB w6 45 5 9 Tryz.underlying45 Tryz.underlying5 Tryz.underlying9 vx xb (HOX.out w6 hb6)
                exact st_yield ho (wanted_some rfl rfl h45 rfl) (.string (str xb)) w6 (by simp [execOp, Act.eval, h46, go_sem, cv, Result.andThen]) ⟨_, rfl, Below.refl _ _, by rintro t' ⟨⟩; rfl⟩
              | 17, ho =>
                obtain rfl := Option.some.inj ho
                have h1 := given_old hg 1 (by decide +kernel)
                obtain ⟨_, h45, rfl⟩ := given_fed hg 45 (by decide +kernel)
                clear hg
                exact st_yield ho (wanted_some rfl rfl h45 rfl) (.slice (some ⟨q, 0, none⟩) m c0) w6 (by simp [execOp, Act.eval, h1, go_sem]) ⟨_, rfl, Below.refl _ _, by rintro t' ⟨⟩; rfl⟩
              | 18, ho =>
                obtain rfl := Option.some.inj ho
                have h6 := given_old hg 6 (by decide +kernel)
                obtain ⟨_, h45, rfl⟩ := given_fed hg 45 (by decide +kernel)
                clear hg
                exact st_yield ho (wanted_some rfl rfl h45 rfl) (.int .i64 (k : Int)) w6 (by simp [execOp, Act.eval, h6, go_sem]) ⟨_, rfl, Below.refl _ _, by rintro t' ⟨⟩; rfl⟩
              | 19, ho =>
                obtain rfl := Option.some.inj ho
                obtain ⟨_, h48, rfl⟩ := given_fed hg 48 (by decide +kernel)
                obtain ⟨_, h49, rfl⟩ := given_fed hg 49 (by decide +kernel)
                obtain ⟨_, h45, rfl⟩ := given_fed hg 45 (by decide +kernel)
                clear hg
                exact st_yield ho (wanted_some rfl rfl h45 rfl) (.pointer (some ⟨q, k * 2, none⟩)) w6 (by simp [execOp, Act.eval, h48, h49, go_sem, HIL.out, Result.andThen]) ⟨_, rfl, Below.refl _ _, by rintro t' ⟨⟩; rfl⟩
              | 20, ho =>
                obtain rfl := Option.some.inj ho
                obtain ⟨_, h50, rfl⟩ := given_fed hg 50 (by decide +kernel)
                obtain ⟨_, h45, rfl⟩ := given_fed hg 45 (by decide +kernel)
                clear hg
                exact st_yield ho (wanted_some rfl rfl h45 rfl) (.pointer (some ⟨q, k * 2 + 1, none⟩)) w6 (by simp [execOp, Act.eval, h50, go_sem]) ⟨_, rfl, Below.refl _ _, by rintro t' ⟨⟩; rfl⟩
              | 21, ho =>
                obtain rfl := Option.some.inj ho
                obtain ⟨_, h51, rfl⟩ := given_fed hg 51 (by decide +kernel)
                obtain ⟨_, h45, rfl⟩ := given_fed hg 45 (by decide +kernel)
                clear hg
                exact st_yield ho (wanted_some rfl rfl h45 rfl) (.string (str yb)) w6 (by simp [execOp, Act.eval, h51, go_sem, hcc.2.2]) ⟨_, rfl, Below.refl _ _, by rintro t' ⟨⟩; rfl⟩
              | 22, ho =>
                obtain rfl := Option.some.inj ho
                obtain ⟨_, h47, rfl⟩ := given_fed hg 47 (by decide +kernel)
                obtain ⟨_, h52, rfl⟩ := given_fed hg 52 (by decide +kernel)
                obtain ⟨_, h45, rfl⟩ := given_fed hg 45 (by decide +kernel)
                clear hg
                exact st_yield ho (wanted_some rfl rfl h45 rfl) (.bool true) w6 (by simp [execOp, Act.eval, h47, h52, go_sem, he12.2]) ⟨_, rfl, Below.refl _ _, by rintro t' ⟨⟩; rfl⟩
              | 23, ho =>
                obtain rfl := Option.some.inj ho
                obtain ⟨_, h45, rfl⟩ := given_fed hg 45 (by decide +kernel)
                obtain ⟨_, h53, rfl⟩ := given_fed hg 53 (by decide +kernel)
                clear hg
                exact st_yield ho (wanted_none rfl) (.bool true) w6 (by simp [execOp, Act.eval, h45, h53, go_sem]) ⟨_, rfl, Below.refl _ _, by rintro t' ⟨⟩; rfl⟩
              | n + 24, ho => simp at ho
            · intro f5 w6 hb6 hv
              have h54 := hv 54 (by decide)
              simp only [VHsB] at h54
              have HB6 := Go.Lib.hid (below_to HB3.out.2 (Nat.le_refl _) hb6)
              clear hv hb6
              unfold putAll
              simp only [List.foldl]
              simp only [h54]
              go_simp
              clear h54
              go_wp2_with fail
              go_ret
              exact ⟨false, rfl, ⟨(fun h => by cases h), fun h => absurd h HNQ.out⟩, below_to HB1.out (Nat.le_refl _) HB6.out⟩
        · rw [decide_eq_false hn] at e1
          have HNQ := Go.Lib.hid (HNE.out (fun e => hn (congrArg Prod.fst e)))
          have E12 := Go.Lib.hid (And.intro e1 e2)
          clear hn e1 e2
          go_upto_region 8 with (fail)
          refine wp_region_each (by kernel_rfl) (VHsA bn on m cn q c0 k xn yn xb yb vx) (VHsA_below bn on m cn q c0 k xn yn xb yb vx) (by decide +kernel) (by decide +kernel) (by rfl) [31, 32, 33, 34, 35, 36, 37, 38, 39, 40, 41, 42, 43, 44, 45, 46, 47, 48, 49, 50, 51, 52, 53, 54] (by rfl) ?_ ?_
          · intro i o ho a w6 hb6 hlen hg
            have hcc := HC3.out w6 hb6
            have he12 := E12.out
            match i, ho with
            | 0, ho =>
              obtain rfl := Option.some.inj ho
              have h5 := given_old hg 5 (by decide +kernel)
              clear hg
              exact st_yield ho (wanted_none rfl) (.slice (some ⟨bn, on, none⟩) m cn) w6 (by simp [execOp, Act.eval, h5, go_sem]) ⟨_, rfl, Below.refl _ _, by rintro t' ⟨⟩; rfl⟩
            | 1, ho =>
              obtain rfl := Option.some.inj ho
              have h6 := given_old hg 6 (by decide +kernel)
              clear hg
              exact st_yield ho (wanted_none rfl) (.int .i64 (k : Int)) w6 (by simp [execOp, Act.eval, h6, go_sem]) ⟨_, rfl, Below.refl _ _, by rintro t' ⟨⟩; rfl⟩
            | 2, ho =>
              obtain rfl := Option.some.inj ho
              obtain ⟨_, h31, rfl⟩ := given_fed hg 31 (by decide +kernel)
              obtain ⟨_, h32, rfl⟩ := given_fed hg 32 (by decide +kernel)
              clear hg
              exact st_yield ho (wanted_none rfl) (.pointer (some ⟨bn, on + k, none⟩)) w6 (by simp [execOp, Act.eval, h31, h32, go_sem, HIS.out, Result.andThen]) ⟨_, rfl, Below.refl _ _, by rintro t' ⟨⟩; rfl⟩
            | 3, ho =>
              obtain rfl := Option.some.inj ho
              obtain ⟨_, h33, rfl⟩ := given_fed hg 33 (by decide +kernel)
              clear hg
              exact st_yield ho (wanted_none rfl) (.string xn) w6 (by simp [execOp, Act.eval, h33, go_sem, hcc.1]) ⟨_, rfl, Below.refl _ _, by rintro t' ⟨⟩; rfl⟩
            | 4, ho =>
              obtain rfl := Option.some.inj ho
              have h1 := given_old hg 1 (by decide +kernel)
              clear hg
              exact st_yield ho (wanted_none rfl) (.slice (some ⟨q, 0, none⟩) m c0) w6 (by simp [execOp, Act.eval, h1, go_sem]) ⟨_, rfl, Below.refl _ _, by rintro t' ⟨⟩; rfl⟩
            | 5, ho =>
              obtain rfl := Option.some.inj ho
              have h6 := given_old hg 6 (by decide +kernel)
              clear hg
              exact st_yield ho (wanted_none rfl) (.int .i64 (k : Int)) w6 (by simp [execOp, Act.eval, h6, go_sem]) ⟨_, rfl, Below.refl _ _, by rintro t' ⟨⟩; rfl⟩
            | 6, ho =>
              obtain rfl := Option.some.inj ho
              obtain ⟨_, h35, rfl⟩ := given_fed hg 35 (by decide +kernel)
              obtain ⟨_, h36, rfl⟩ := given_fed hg 36 (by decide +kernel)
              clear hg
              exact st_yield ho (wanted_none rfl) (.pointer (some ⟨q, k * 2, none⟩)) w6 (by simp [execOp, Act.eval, h35, h36, go_sem, HIL.out, Result.andThen]) ⟨_, rfl, Below.refl _ _, by rintro t' ⟨⟩; rfl⟩
            | 7, ho =>
              obtain rfl := Option.some.inj ho
              obtain ⟨_, h37, rfl⟩ := given_fed hg 37 (by decide +kernel)
              clear hg
              exact st_yield ho (wanted_none rfl) (.pointer (some ⟨q, k * 2, none⟩)) w6 (by simp [execOp, Act.eval, h37, go_sem]) ⟨_, rfl, Below.refl _ _, by rintro t' ⟨⟩; rfl⟩
            | 8, ho =>
              obtain rfl := Option.some.inj ho
              obtain ⟨_, h38, rfl⟩ := given_fed hg 38 (by decide +kernel)
              clear hg
              exact st_yield ho (wanted_none rfl) (.string yn) w6 (by simp [execOp, Act.eval, h38, go_sem, hcc.2.1]) ⟨_, rfl, Below.refl _ _, by rintro t' ⟨⟩; rfl⟩
            | 9, ho =>
              obtain rfl := Option.some.inj ho
              obtain ⟨_, h34, rfl⟩ := given_fed hg 34 (by decide +kernel)
              obtain ⟨_, h39, rfl⟩ := given_fed hg 39 (by decide +kernel)
              clear hg
              exact st_yield ho (wanted_none rfl) (.bool true) w6 (by simp [execOp, Act.eval, h34, h39, go_sem, he12.1]) ⟨_, rfl, Below.refl _ _, by rintro t' ⟨⟩; rfl⟩
            | 10, ho =>
              obtain rfl := Option.some.inj ho
              obtain ⟨_, h40, rfl⟩ := given_fed hg 40 (by decide +kernel)
              clear hg
              exact st_yield ho (wanted_none rfl) (.bool true) w6 (by simp [execOp, Act.eval, h40, go_sem]) ⟨_, rfl, Below.refl _ _, by rintro t' ⟨⟩; rfl⟩
            | 11, ho =>
              obtain rfl := Option.some.inj ho
              obtain ⟨_, h41, rfl⟩ := given_fed hg 41 (by decide +kernel)
              clear hg
              exact st_skip ho (wanted_not rfl rfl h41 (by decide)) ⟨_, rfl, Below.refl _ _, by rintro t' ⟨⟩; rfl⟩
            | 12, ho =>
              obtain rfl := Option.some.inj ho
              obtain ⟨_, h41, rfl⟩ := given_fed hg 41 (by decide +kernel)
              clear hg
              exact st_skip ho (wanted_not rfl rfl h41 (by decide)) ⟨_, rfl, Below.refl _ _, by rintro t' ⟨⟩; rfl⟩
            | 13, ho =>
              obtain rfl := Option.some.inj ho
              obtain ⟨_, h41, rfl⟩ := given_fed hg 41 (by decide +kernel)
              obtain ⟨_, h43, rfl⟩ := given_fed hg 43 (by decide +kernel)
              clear hg
              exact st_yield ho (wanted_none rfl) (.bool true) w6 (by simp [execOp, Act.eval, h41, h43, go_sem]) ⟨_, rfl, Below.refl _ _, by rintro t' ⟨⟩; rfl⟩
            | 14, ho =>
              obtain rfl := Option.some.inj ho
              obtain ⟨_, h44, rfl⟩ := given_fed hg 44 (by decide +kernel)
              clear hg
              exact st_yield ho (wanted_none rfl) (.bool true) w6 (by simp [execOp, Act.eval, h44, go_sem]) ⟨_, rfl, Below.refl _ _, by rintro t' ⟨⟩; rfl⟩
            | 15, ho =>
              obtain rfl := Option.some.inj ho
              obtain ⟨_, h45, rfl⟩ := given_fed hg 45 (by decide +kernel)
              clear hg
              exact st_skip ho (wanted_not rfl rfl h45 (by decide)) ⟨_, rfl, Below.refl _ _, by rintro t' ⟨⟩; rfl⟩
            | 16, ho =>
              obtain rfl := Option.some.inj ho
              obtain ⟨_, h45, rfl⟩ := given_fed hg 45 (by decide +kernel)
              clear hg
              exact st_skip ho (wanted_not rfl rfl h45 (by decide)) ⟨_, rfl, Below.refl _ _, by rintro t' ⟨⟩; rfl⟩
            | 17, ho =>
              obtain rfl := Option.some.inj ho
              obtain ⟨_, h45, rfl⟩ := given_fed hg 45 (by decide +kernel)
              clear hg
              exact st_skip ho (wanted_not rfl rfl h45 (by decide)) ⟨_, rfl, Below.refl _ _, by rintro t' ⟨⟩; rfl⟩
            | 18, ho =>
              obtain rfl := Option.some.inj ho
              obtain ⟨_, h45, rfl⟩ := given_fed hg 45 (by decide +kernel)
              clear hg
              exact st_skip ho (wanted_not rfl rfl h45 (by decide)) ⟨_, rfl, Below.refl _ _, by rintro t' ⟨⟩; rfl⟩
            | 19, ho =>
              obtain rfl := Option.some.inj ho
              obtain ⟨_, h45, rfl⟩ := given_fed hg 45 (by decide +kernel)
              clear hg
              exact st_skip ho (wanted_not rfl rfl h45 (by decide)) ⟨_, rfl, Below.refl _ _, by rintro t' ⟨⟩; rfl⟩
            | 20, ho =>
              obtain rfl := Option.some.inj ho
              obtain ⟨_, h45, rfl⟩ := given_fed hg 45 (by decide +kernel)
              clear hg
              exact st_skip ho (wanted_not rfl rfl h45 (by decide)) ⟨_, rfl, Below.refl _ _, by rintro t' ⟨⟩; rfl⟩
            | 21, ho =>
              obtain rfl := Option.some.inj ho
              obtain ⟨_, h45, rfl⟩ := given_fed hg 45 (by decide +kernel)
              clear hg
              exact st_skip ho (wanted_not rfl rfl h45 (by decide)) ⟨_, rfl, Below.refl _ _, by rintro t' ⟨⟩; rfl⟩
            | 22, ho =>
              obtain rfl := Option.some.inj ho
              obtain ⟨_, h45, rfl⟩ := given_fed hg 45 (by decide +kernel)
              clear hg
              exact st_skip ho (wanted_not rfl rfl h45 (by decide)) ⟨_, rfl, Below.refl _ _, by rintro t' ⟨⟩; rfl⟩
            | 23, ho =>
              obtain rfl := Option.some.inj ho
              obtain ⟨_, h45, rfl⟩ := given_fed hg 45 (by decide +kernel)
              obtain ⟨_, h53, rfl⟩ := given_fed hg 53 (by decide +kernel)
              clear hg
              exact st_yield ho (wanted_none rfl) (.bool true) w6 (by simp [execOp, Act.eval, h45, h53, go_sem]) ⟨_, rfl, Below.refl _ _, by rintro t' ⟨⟩; rfl⟩
            | n + 24, ho => simp at ho
          · intro f5 w6 hb6 hv
            have h54 := hv 54 (by decide)
            simp only [VHsA] at h54
            have HB6 := Go.Lib.hid (below_to HB3.out.2 (Nat.le_refl _) hb6)
            clear hv hb6
            unfold putAll
            simp only [List.foldl]
            simp only [h54]
            go_simp
            clear h54
            go_wp2_with fail
            go_ret
            exact ⟨false, rfl, ⟨(fun h => by cases h), fun h => absurd h HNQ.out⟩, below_to HB1.out (Nat.le_refl _) HB6.out⟩
      · obtain rfl : k = m := by omega
        have HEQ := Go.Lib.hid (show X = N from by
          rw [List.take_of_length_le (by have := HXL.out; omega), List.take_of_length_le (by have := HM.out; omega)] at htk
          exact htk)
        have HBW := Go.Lib.hid hbw
        clear htk hbw
        go_wp2_with fail
        go_ret
        exact ⟨true, rfl, ⟨fun _ => HEQ.out, fun _ => rfl⟩, below_to HB1.out (Nat.le_refl _) HBW.out⟩
  · have hne : ((X.length : Int) == (m : Int)) = false := by
      rw [beq_eq_false_iff_ne]
      omega
    have hlI : ¬ (X.length : Int) = (m : Int) := by omega
    have HNQ := Go.Lib.hid (show X ≠ N from fun e => hlen (by rw [HM.out, e]))
    clear hlen
    go_wp2_with fail
    go_ret
    exact ⟨false, rfl, ⟨(fun h => by cases h), fun h => absurd h HNQ.out⟩, HB1.out⟩
end

end Go.Proofs.YtnalokjnbccjnaaGreatDoor

namespace Go.Proofs.YtnalokjnbccjnaaGreatDoor
open Go.RowKit

def ept (x : PutT) : List Value := [.string x.1, .bool x.2.1, slV x.2.2.1]
theorem ept_len (x : PutT) : (ept x).length = 3 := rfl
theorem ept_one (x : PutT) : ∀ v ∈ ept x, v.oneCell' = true := by
  intro v hv
  simp only [ept, slV, List.mem_cons, List.not_mem_nil, or_false] at hv
  rcases hv with rfl | rfl | rfl <;> rfl
theorem TX.kept {w w' : World} {v : Value} {x : List UInt8} (h : TX w v x) (hk : ∀ (k : Nat) (cs : Array Value) (fr : Nat × Nat), w.heap[k]? = some (.cells cs 5 fr) → w'.heap[k]? = w.heap[k]?) : TX w' v x := by
  by_cases hx : x = []
  · subst hx
    obtain ⟨a, cap, hv, h1, h2, h3, -⟩ := h.1
    exact ⟨⟨a, cap, hv, h1, h2, h3, fun h => absurd rfl h⟩, fun h => absurd rfl h⟩
  · obtain ⟨b, o, n, cap, cur, fr, hv, hcur⟩ := h.2 hx
    obtain ⟨a', cap', hv', h1, h2, h3, h4⟩ := h.1
    have hb := (hk b cur fr hcur).trans hcur
    refine ⟨⟨a', cap', hv', h1, h2, h3, fun _ => ?_⟩, fun _ => ⟨b, o, n, cap, cur, fr, hv, hb⟩⟩
    obtain ⟨b', o', hbo, h5⟩ := h4 hx
    rw [hv] at hv'
    simp only [Value.slice.injEq] at hv'
    obtain ⟨rfl, -, -⟩ := hv'
    simp only [Option.some.injEq, Addr.mk.injEq, and_true] at hbo
    obtain ⟨rfl, rfl⟩ := hbo
    refine ⟨b, o, rfl, fun i hi => ?_⟩
    have h6 := h5 i hi
    rw [cell_of_row w b (o + i) _ _ _ hcur] at h6
    rw [cell_of_row _ b (o + i) _ _ _ hb]
    exact h6
/-- A []Put that the call makes. -/
structure OwnPu (w : World) (B : Nat) (v : Value) (l : List PutT) : Prop where
  row : w.ownsRow B 47 3 v l.length (l.flatMap ept)
  tx : ∀ x ∈ l, TX w (slV x.2.2.1) x.2.2.2
section
variable {w w' : World} {B : Nat} {v : Value} {l : List PutT}
theorem OwnPu.nil (w : World) (B : Nat) : OwnPu w B (.slice none 0 0) [] := ⟨World.ownsRow_nil w B _ 3, fun x hx => absurd hx (by simp)⟩
theorem OwnPu.below (h : OwnPu w B v l) (hb : Below w.heap.size w w') : OwnPu w' B v l := ⟨row_keep h.row fun k _ _ _ hc => hb.block k (Array.getElem?_eq_some_iff.1 hc).1, fun x hx => (h.tx x hx).below hb⟩
theorem OwnPu.mono {B' : Nat} (h : OwnPu w B v l) (hB : B' ≤ B) : OwnPu w B' v l := ⟨row_mono h.row hB, h.tx⟩
theorem OwnPu.own (h : OwnPu w B v l) : ∀ k, v.ownBlock = some k → B ≤ k := World.ownsRow.row' h.row
theorem OwnPu.form (h : OwnPu w B v l) : ∃ p c, v = .slice p l.length c := by
  rcases h.row.2 with ⟨rfl, h0⟩ | ⟨g, cap, cur, rfl, hB, h2, -⟩
  · exact ⟨_, _, by rw [h0]⟩
  · exact ⟨_, cap, rfl⟩
theorem OwnPu.rpt (h : OwnPu w B v l) : RPt w v l := by
  refine ⟨?_, h.tx⟩
  rcases h.row.2 with ⟨rfl, h0⟩ | ⟨g, cap, cur, rfl, hB, h2, -⟩
  · exact .inl ⟨List.eq_nil_of_length_eq_zero h0, _, _, rfl⟩
  · refine .inr ⟨g, cap, cur, (0, 0), rfl, h2, fun i hi => ?_⟩
    have h1 := flatk_at ept_len l i
    have hc : ∀ j u, (h3 : j < 3) → (ept l[i])[j]? = some u → w.cell? ⟨g, i * 3 + j, none⟩ = some u := by
      intro j u h3 hu
      have h4 := World.ownsRow.cells h.row (g := g) rfl (i * 3 + j) u (by rw [h1 j hi h3]; exact hu)
      rw [Addr.add_mid, Nat.zero_add] at h4
      exact h4
    exact ⟨hc 0 _ (by omega) rfl, hc 1 _ (by omega) rfl, hc 2 _ (by omega) rfl⟩
theorem infoPu : (Tryz.prog.info? 47).map (fun i => (i.zero, i.size, i.bytes)) = some (some (.agg #[.string ⟨#[]⟩, .bool false, .slice none 0 0]), 3, 48) := by kernel_rfl
theorem wpList_append_put {ops : Array Oper} {rest : List Oper} {o : Oper} {a : Act} {w : World} {Q : Exit → Act → World → Prop} (hgd : o.guard = none) (s x : Operand)
    (ho : o.op = .call { callee := .builtin .append, args := #[s, x], argTypes := #[31, 31] })
    (B : Nat) (v : Value) (l : List PutT) (y : PutT) (g : Nat) (fr : Nat × Nat) (hs : a.eval s = v) (hx : a.eval x = .slice (some ⟨g, 0, none⟩) 1 1) (hown : OwnPu w B v l) (hg : w.heap[g]? = some (.cells (ept y).toArray 47 fr)) (hty : TX w (slV y.2.2.1) y.2.2.2) (hl : l.length ≤ 1000) (hbase : B ≤ w.heap.size)
    (h : ∀ v' w', OwnPu w' B v' (l ++ [y]) → w.grownBy w' v.ownBlock → wpList Tryz.prog ops Q rest (a.put o.dst v') w') : wpList Tryz.prog ops Q (o :: rest) a w := by
  obtain ⟨i, hi, hz, hsize, hby⟩ := info_parts infoPu
  refine wpList_append_own w hgd s x _ ho B 47 i _ 3 48 Tryz.underlying31 hi hz hsize hby rfl (by decide) v l.length (l.flatMap ept) hs hown.row ⟨g, 0, none⟩ 1 1 (ept y) hx (by rw [ept_len]) ?_ (ept_one y) (by unfold maxLen; omega) (by omega) hbase ?_
  · intro j u hj
    have hadd : (⟨g, 0, none⟩ : Addr).add j = ⟨g, j, none⟩ := by unfold Addr.add; split <;> simp_all
    rw [hadd, cell_of_row w g j _ _ _ hg, List.getElem?_toArray]
    exact hj
  · intro v' w' hown' hg' _
    refine h v' w' ⟨?_, fun z hz => ?_⟩ hg'
    · rw [List.length_append, List.flatMap_append]
      simpa using hown'
    · have hk : ∀ (k : Nat) (cs : Array Value) (fr : Nat × Nat), w.heap[k]? = some (.cells cs 5 fr) → w'.heap[k]? = w.heap[k]? := fun k cs fr hc => hg'.block k (Array.getElem?_eq_some_iff.1 hc).1 (own_ne hown.row hc (by decide))
      rcases List.mem_append.1 hz with hz | hz
      · exact (hown.tx z hz).kept hk
      · rw [List.mem_singleton.1 hz]
        exact hty.kept hk
theorem newPu (W : World) (nm : ByteArray) (gn : Bool) (a : Option Addr) (n c : Nat) (b : List UInt8) : (W.alloc (.cells #[.string nm, .bool gn, .slice a n c] 47)).heap[W.heap.size]? = some (.cells (ept (nm, gn, (a, n, c), b)).toArray 47) := heap_alloc_new W _
end

theorem newPu2 (W : World) (g : Nat) (hg : g = W.heap.size) (nm : ByteArray) (gn : Bool) (a : Option Addr) (n c : Nat) (b : List UInt8) : (W.alloc (.cells #[.string nm, .bool gn, .slice a n c] 47)).heap[g]? = some (.cells (ept (nm, gn, (a, n, c), b)).toArray 47) := by
  subst hg
  exact heap_alloc_new W _

/-! ### Files by letters. -/
def nmI (i : Nat) : ByteArray := str [UInt8.ofNat (97 + i)]
def byI (sz c i : Nat) : List UInt8 := List.replicate (sz + 1) (UInt8.ofNat (c + i))
/-- n files, the i-th one all of c + i. -/
def FN (n sz c : Nat) : FL := (List.range n).map fun i => (nmI i, byI sz c i)
theorem FN_len (n sz c : Nat) : (FN n sz c).length = n := by simp [FN]
theorem nmI_lt {i j : Nat} (h : i < j) (hj : j < 100) : ltN (nmI i) (nmI j) = true := by
  unfold ltN nmI
  have e : ∀ l : List UInt8, (str l).toList = l := fun l => by rw [ByteArray.toList_eq]; simp [str]
  rw [e, e]
  have h1 : (UInt8.ofNat (97 + i)) < (UInt8.ofNat (97 + j)) := by
    rw [UInt8.lt_iff_toNat_lt, UInt8.toNat_ofNat', UInt8.toNat_ofNat']
    omega
  show (decide (UInt8.ofNat (97 + i) < UInt8.ofNat (97 + j)) || _) = true
  rw [decide_eq_true h1]
  rfl
theorem nmI_inj {i j : Nat} (hi : i < 100) (hj : j < 100) (h : nmI i = nmI j) : i = j := by
  rcases Nat.lt_trichotomy i j with h1 | h1 | h1
  · exact absurd h (ltN_ne (nmI_lt h1 hj))
  · exact h1
  · exact absurd h.symm (ltN_ne (nmI_lt h1 hi))
theorem FN_rise (n sz c : Nat) (hn : n ≤ 100) : RiseF (FN n sz c) := by
  unfold RiseF FN
  rw [List.pairwise_map, List.pairwise_iff_getElem]
  intro i j hi hj hij
  rw [List.getElem_range, List.getElem_range]
  rw [List.length_range] at hj
  exact nmI_lt hij (by omega)
theorem FN_look (n sz c : Nat) (hn : n ≤ 100) (i : Nat) (hi : i < n) : lookF (FN n sz c) (nmI i) = some (byI sz c i) := look_of (FN_rise n sz c hn) (List.mem_map.2 ⟨i, List.mem_range.2 hi, rfl⟩)
/-- Puts of all of them. -/
def PutsN (n sz c : Nat) (l : List PutT) : Prop := l.length = n ∧ ∀ i (hi : i < l.length), l[i].1 = nmI i ∧ l[i].2.1 = false ∧ l[i].2.2.2 = byI sz c i
theorem PutsN.done {n sz c : Nat} {l : List PutT} (h : PutsN n sz c l) (hn : n ≤ 100) {X : FL} (hX : X = [] ∨ ∃ c', X = FN n sz c') : doneL X l = FN n sz c := by
  have hr : RiseF X := by
    rcases hX with rfl | ⟨c', rfl⟩
    · exact List.Pairwise.nil
    · exact FN_rise n sz c' hn
  refine look_ext (rise_done hr l) (FN_rise n sz c hn) fun q => ?_
  rw [look_done]
  by_cases hq : ∃ i, i < n ∧ nmI i = q
  · obtain ⟨i, hi, rfl⟩ := hq
    have hil : i < l.length := by rw [h.1]; exact hi
    have hp : lookP l (nmI i) = some l[i] := lookP_iff.2 ⟨i, hil, rfl, (h.2 i hil).1, fun j hj hij e => by
      rw [(h.2 j hj).1] at e
      have := nmI_inj (by have := h.1; omega) (by omega) e
      omega⟩
    rw [hp]
    simp only
    unfold valP
    rw [(h.2 i hil).2.1, if_neg (by decide), (h.2 i hil).2.2, FN_look n sz c hn i hi]
  · have hp : lookP l q = none := lookP_none.2 fun y hy e => by
      obtain ⟨i, hi, rfl⟩ := List.mem_iff_getElem.1 hy
      exact hq ⟨i, by rw [← h.1]; exact hi, by rw [← (h.2 i hi).1]; exact e⟩
    rw [hp]
    simp only
    have hF : ∀ c, lookF (FN n sz c) q = none := fun c => look_none.2 fun y hy e => by
      obtain ⟨i, hi, rfl⟩ := List.mem_map.1 hy
      exact hq ⟨i, List.mem_range.1 hi, e⟩
    rw [hF]
    rcases hX with rfl | ⟨c', rfl⟩
    · rfl
    · exact hF c'
theorem PutsN.snoc {k sz c : Nat} {l : List PutT} (h : PutsN k sz c l) (x : PutT) (h1 : x.1 = nmI k) (h2 : x.2.1 = false) (h3 : x.2.2.2 = byI sz c k) : PutsN (k + 1) sz c (l ++ [x]) := by
  refine ⟨by rw [List.length_append, h.1]; rfl, fun i hi => ?_⟩
  rw [List.length_append, h.1] at hi
  by_cases hik : i < l.length
  · rw [List.getElem_append_left hik]
    exact h.2 i hik
  · obtain rfl : i = k := by have := h.1; simp only [List.length_cons, List.length_nil] at hi; omega
    have e : (l ++ [x])[i]'(by rw [List.length_append, h.1]; simp) = x := by
      rw [List.getElem_append_right (by omega)]
      simp [h.1]
    rw [e]
    exact ⟨h1, h2, h3⟩
theorem PutsN.ok {n sz c : Nat} {l : List PutT} (h : PutsN n sz c l) (hs : sz ≤ 300) : OkP l := by
  intro x hx
  obtain ⟨i, hi, rfl⟩ := List.mem_iff_getElem.1 hx
  obtain ⟨h1, h2, h3⟩ := h.2 i hi
  rw [h1, h3]
  unfold nmI byI
  rw [str_size, List.length_replicate]
  exact ⟨by simp, by simp, by omega⟩

end Go.Proofs.YtnalokjnbccjnaaGreatDoor

namespace Go.Proofs.YtnalokjnbccjnaaGreatDoor
open Go.RowKit

theorem own_len {e : TypeId} {w : World} {B : Nat} {v : Value} {n : Nat} (h : Own e w B v (List.replicate n 0)) : ∃ a c, v = .slice a n c := by
  obtain ⟨a, c, h, -⟩ := h.rb
  exact ⟨a, c, by rw [h, List.length_replicate]⟩
theorem rep_set (n _c : Nat) (M : List UInt8) (x : UInt8) (q : Nat) (_hM : M.length = n) (hq : q < n) (h : ∀ i (hi : i < M.length), i < q → M[i] = x) : ∀ i (hi : i < (M.set q x).length), i < q + 1 → (M.set q x)[i] = x := by
  intro i hi h1
  by_cases he : i = q
  · subst he; simp
  · rw [List.getElem_set_ne (Ne.symm he)]
    exact h i (by simpa using hi) (by omega)
theorem byte_row1 (k : Nat) (hk : k < 256) : (#[Value.int .u8 (k : Int)] : Array Value) = (cells [UInt8.ofNat k]).toArray := by
  unfold cells
  rw [byte_of k hk]
  rfl
section
variable {w : World}
set_option maxHeartbeats 8000000 in
set_option maxRecDepth 100000 in
theorem puts_c (b4 b5 n sz c : Nat) (h4 : w.cell? ⟨b4, 0, none⟩ = some (.int .i64 (n : Int))) (h5 : w.cell? ⟨b5, 0, none⟩ = some (.int .i64 (sz : Int))) (hn : n ≤ 10) (hs : sz ≤ 300) (hc : c ≤ 100) :
    Calls Tryz.prog 28 #[.int .u8 (c : Int), .pointer (some ⟨b4, 0, none⟩), .pointer (some ⟨b5, 0, none⟩)] w fun e w' => ∃ v l, e = .returned v ∧ OwnPu w' w.heap.size v l ∧ PutsN n sz c l ∧ Below w.heap.size w w' := by
  have H4 := Go.Lib.hid h4
  have H5 := Go.Lib.hid h5
  have hnI : (n : Int) ≤ 10 := by omega
  have hsI : (sz : Int) ≤ 300 := by omega
  go_enter Tryz.func28, Tryz.ntmps28
  go_wp2_with fail
  clear h4 h5
  go_loopw [5, 6] (fun ov iv wr => ∃ (k : Nat) (u : Value) (l : List PutT), u = ov ∧ k ≤ n ∧ iv = .int .i64 (k : Int) ∧ OwnPu wr w.heap.size u l ∧ PutsN k sz c l ∧ Below w.heap.size w wr) (fun _ iv _ => n - (intOf iv).toNat)
  case atStart => exact ⟨0, _, [], rfl, by omega, rfl, OwnPu.nil _ _, ⟨rfl, fun i hi => absurd hi (by simp)⟩, Below.refl _ _⟩
  case round =>
    obtain ⟨k, u, l, rfl, hk, rfl, hO, hP, hbw⟩ := hrel
    obtain ⟨wo, rfl⟩ : ∃ wo, wo = wr := ⟨_, rfl⟩
    have y4 := keptC H4.out hbw
    have y5 := keptC H5.out hbw
    by_cases hlt : k < n
    · have HO := Go.Lib.hid hO
      have HP := Go.Lib.hid hP
      have HBW := Go.Lib.hid hbw
      have hkI : (k : Int) < (n : Int) := by omega
      have HLT := Go.Lib.hid hlt
      have e15 : IntKind.i64.wrap ((sz : Int) + 1) = ((sz + 1 : Nat) : Int) := by rw [IntKind.wrap_i64]; omega
      clear hO hP hbw hlt hk
      go_wp2_with (first
        | (with_reducible show wpList _ _ _ (⟨some 16, _, _, _, _, _⟩ :: _) _ _; go_must (refine wpList_make_len rfl (.tmp 15) (.tmp 15) 45 rfl 5 Tryz.underlying45 info8 .i64 .i64 _ _ (sz + 1) (sz + 1) rfl rfl (by omega) (by omega) (by omega) (by omega) ?_); intro v5 w5 hown5 hg5; have HO5 := Go.Lib.hid hown5; obtain ⟨ab, cb, rfl⟩ := own_len hown5; have HB5 := Go.Lib.hid (show Below wo.heap.size wo w5 from (Below.refl _ _).grown hg5 (Nat.le_refl _) (fun j hj => by cases hj)); clear hown5 hg5)
        | fail)
      clear y4 y5 e15
      go_loopw [19] (fun ci wx => ∃ (q : Nat) (M : List UInt8), q ≤ sz + 1 ∧ ci = .int .i64 (q : Int) ∧ M.length = sz + 1 ∧ (∀ i (hi : i < M.length), i < q → M[i] = UInt8.ofNat (c + k)) ∧ Own 5 wx wo.heap.size (.slice ab (sz + 1) cb) M ∧ Below wo.heap.size wo wx) (fun ci _ => (sz + 1) - (intOf ci).toNat)
      case atStart => exact ⟨0, _, by omega, rfl, by rw [List.length_replicate], fun i hi h => by omega, HO5.out, HB5.out⟩
      case round =>
        obtain ⟨q, M, hq, rfl, hM, hall, hown, hbx⟩ := hrel
        by_cases hqn : q < sz + 1
        · obtain ⟨bg, bc, hv, hbB, hbl, -, -, -⟩ := hown.form (by omega)
          simp only [Value.slice.injEq] at hv
          obtain ⟨rfl, -, rfl⟩ := hv
          have hcell := hown.cell q (by omega)
          have hfr := hown.frozenAt q
          have e26 : IntKind.u8.wrap (k : Int) = (k : Int) := by rw [IntKind.wrap_u8']; have := HLT.out; omega
          have e27 : IntKind.u8.wrap ((c : Int) + (k : Int)) = ((c + k : Nat) : Int) := by rw [IntKind.wrap_u8']; have := HLT.out; omega
          have hst := Go.Lib.hid (hown.store q (UInt8.ofNat (c + k)) ((c + k : Nat) : Int) (byte_of (c + k) (by have := HLT.out; omega)))
          have hb6 := Go.Lib.hid (hbx.setCell (p := ⟨bg, q, none⟩) hbB (.int .u8 ((c + k : Nat) : Int)))
          have hqI : (q : Int) < ((sz + 1 : Nat) : Int) := by omega
          have HM := Go.Lib.hid (show (M.set q (UInt8.ofNat (c + k))).length = sz + 1 from by rw [List.length_set, hM])
          have HALL := Go.Lib.hid (rep_set (sz + 1) 0 M (UInt8.ofNat (c + k)) q hM hqn hall)
          have HQ := Go.Lib.hid hqn
          have hqM : (q : Int) ≤ 600 := by omega
          generalize M[q].toNat = x at *
          generalize ((c + k : Nat) : Int) = CK at *
          clear hown hbx hbB hbl hM hall hq hqn
          go_wp2_with fail
          go_roundw
          case rel => exact ⟨q + 1, _, by have := HQ.out; omega, by go_num, HM.out, HALL.out, hst.out, hb6.out⟩
          case measure => simp only [intOf]; have := HQ.out; omega
        · obtain rfl : q = sz + 1 := by omega
          have hMb : M = byI sz c k := by
            unfold byI
            apply List.ext_getElem
            · rw [hM, List.length_replicate]
            · intro i h1 h2
              rw [List.getElem_replicate]
              exact hall i h1 (by omega)
          subst hMb
          -- the name
          have e32 : IntKind.i64.wrap (97 + (k : Int)) = ((97 + k : Nat) : Int) := by rw [IntKind.wrap_i64]; have := HLT.out; omega
          have e33 : IntKind.u8.wrap ((97 + k : Nat) : Int) = ((97 + k : Nat) : Int) := by rw [IntKind.wrap_u8']; have := HLT.out; omega
          have hbz := newB wr (.cells #[.int .u8 ((97 + k : Nat) : Int)] 5)
          have hr6 := TX.lits wr [UInt8.ofNat (97 + k)] #[.int .u8 ((97 + k : Nat) : Int)] 1 (byte_row1 (97 + k) (by have := HLT.out; omega)) rfl (by simp) (0, 0)
          have hcv := run_string_RB (wr.alloc (.cells #[.int .u8 ((97 + k : Nat) : Int)] 5)) 45 5 9 Tryz.underlying45 Tryz.underlying5 Tryz.underlying9 (.slice (some ⟨wr.heap.size, 0, none⟩) 1 1) [UInt8.ofNat (97 + k)] hr6.1
          rw [show str [UInt8.ofNat (97 + k)] = nmI k from rfl] at hcv
          obtain ⟨wz, hwz⟩ : ∃ wz, wz = wr.alloc (.cells #[.int .u8 ((97 + k : Nat) : Int)] 5) := ⟨_, rfl⟩
          have hbp := newB wz (.cells #[.string (nmI k), .bool false, .slice ab (sz + 1) cb] 47)
          have hbxz := below_to hbx (Nat.le_refl _) (hwz ▸ hbz)
          have hbxp := below_to hbxz (Nat.le_refl _) hbp
          have HOP := Go.Lib.hid (HO.out.below hbxp)
          have HNP := Go.Lib.hid (newPu2 wz (wr.heap.size + 1) (by rw [hwz]; simp) (nmI k) false ab (sz + 1) cb (byI sz c k))
          have HTP := Go.Lib.hid (show TX (wz.alloc (.cells #[.string (nmI k), .bool false, .slice ab (sz + 1) cb] 47)) (slV (ab, sz + 1, cb)) (byI sz c k) from ((hown.below (hwz ▸ hbz)).below hbp).tx)
          have HBP := Go.Lib.hid (below_to HBW.out (Nat.le_refl _) hbxp)
          have HPL := Go.Lib.hid HP.out.1
          subst hwz
          generalize ((97 + k : Nat) : Int) = CK at *
          clear hown hbx hbz hr6 hbp hbxz hbxp hall hM hq hqn
          go_wp2_with (first
            | (with_reducible show wpList _ _ _ (⟨some 39, _, _, _, _, _⟩ :: _) _ _; go_must (refine wpList_append_put rfl (.tmp 30) (.tmp 38) rfl w.heap.size u l (nmI k, false, (ab, sz + 1, cb), byI sz c k) (wr.heap.size + 1) (0, 0) rfl rfl HOP.out HNP.out HTP.out (by have := HPL.out; have := HLT.out; omega) HBP.out.size ?_); intro v6 w6 ho6 hg6; have HO6 := Go.Lib.hid ho6; go_must (have HB6 := Go.Lib.hid (HBP.out.grown hg6 HBP.out.size HOP.out.own)); clear ho6 hg6)
            | fail)
          go_roundw
          case rel => exact ⟨k + 1, _, _, rfl, by have := HLT.out; omega, by go_num, HO6.out, HP.out.snoc _ rfl rfl rfl, HB6.out⟩
          case measure => simp only [intOf]; have := HLT.out; omega
    · obtain rfl : k = n := by omega
      have HF := Go.Lib.hid (And.intro hO (And.intro hP hbw))
      clear hO hP hbw
      go_wp2_with fail
      go_ret
      exact ⟨_, l, rfl, HF.out.1, HF.out.2.1, HF.out.2.2⟩
end

end Go.Proofs.YtnalokjnbccjnaaGreatDoor

namespace Go.Proofs.YtnalokjnbccjnaaGreatDoor
open Go.RowKit

/-- A store that is down: a crash of its device leaves the files X or the files Y. -/
structure LX (w : World) (M s d g p n t : Nat) (X Y : FL) : Prop where
  st : ∃ es ls, ST w M s d p es ls true
  dv : ∃ S' L', L'.dead = true ∧ DV w M d g n S' L' ∧ ∀ keep, ∃ F3 f3 es3 ls3, crS S' keep = calmS F3 ∧ OkF n F3 f3 es3 ls3 ∧ (filesF F3 es3 = X ∨ filesF F3 es3 = Y) ∧ f3.turn ≤ t
  n0 : 64 ≤ n
section
variable {w w' : World} {M s d g p n t : Nat} {L : Life} {X Y : FL}
theorem LX.below (h : LX w M s d g p n t X Y) (hb : Below w.heap.size w w') : LX w' M s d g p n t X Y := by
  obtain ⟨es, ls, h1⟩ := h.st
  obtain ⟨S', L', h2, h3, h4⟩ := h.dv
  exact ⟨⟨es, ls, h1.below hb⟩, ⟨S', L', h2, h3.below hb, h4⟩, h.n0⟩
theorem LX.turn {t' : Nat} (h : LX w M s d g p n t X Y) (ht : t ≤ t') : LX w M s d g p n t' X Y := by
  obtain ⟨S', L', h2, h3, h4⟩ := h.dv
  exact ⟨h.st, ⟨S', L', h2, h3, fun keep => by
    obtain ⟨F3, f3, es3, ls3, h5, h6, h7, h8⟩ := h4 keep
    exact ⟨F3, f3, es3, ls3, h5, h6, h7, Nat.le_trans h8 ht⟩⟩, h.n0⟩
/-- How an Apply ends, by name. -/
def ApWhat (w w' : World) (M s d g p n : Nat) (L : Life) (t : Nat) (X : FL) (l : List PutT) (r : Int) : Prop :=
  (r = 5 ∧ 32 < (doneL X l).length ∧ Below w.heap.size w w') ∨
  (r = 4 ∧ (doneL X l).length ≤ 32 ∧ Below w.heap.size w w' ∧ ∀ m W, 0 < m → m ≤ 63 → (∀ x ∈ X, secs x.2.length ≤ m) → (∀ z ∈ l, z.2.1 = false → z.2.2.2 ≠ [] → secs z.2.2.2.length = m) → W * m ≤ n - 14 → 2 * (X.length + l.length) + secs (26 * X.length + 1) < W → (X.length + l.length) * m + 30 < n → False) ∨
  ((doneL X l).length ≤ 32 ∧ Offs [s, d, g, p] w w' ∧ Tab w' ∧ Below M w w' ∧
    ((r = 0 ∧ ∃ L', L'.calls ≤ L.calls + 1400 ∧ LW w' M s d g p n L' (t + 1) (doneL X l)) ∨ (r = 7 ∧ LX w' M s d g p n (t + 1) X (doneL X l))))
theorem apply_any {v : Value} {l : List PutT} (h : LW w M s d g p n L t X) (hT : Tab w) (hB : 0 < M) (hv : RPt w v l) (hl : l.length ≤ 19) (hP : OkP l) (hne : l ≠ []) (hc : L.calls ≤ 900000) (ht : t ≤ 1000000) :
    Calls Tryz.prog 16 #[.pointer (some ⟨s, 0, none⟩), v] w fun e w' => ∃ r : Int, e = .returned (.int .i64 r) ∧ ApWhat w w' M s d g p n L t X l r := by
  obtain ⟨F, f, es, ls, h1, rfl, h3⟩ := h.out
  have hcd := count_done (F := F) (l := l) h1.ok.may
  have hmis : l.any misP = false := List.any_eq_false.2 fun x hx => by
    have := hP x hx
    unfold misP
    simp only [Bool.or_eq_true, decide_eq_true_eq, not_or]
    omega
  refine (oapply_c h1 hT hB v l hv (.inl hl) (fun x hx => (hP x hx).2.2) hc (by omega)).mono ?_
  rintro e w' ⟨r, rfl, hend⟩
  refine ⟨r, rfl, ?_⟩
  rcases hend with ⟨-, h4, -⟩ | ⟨-, h4, -⟩ | ⟨rfl, -, h4, h5⟩ | ⟨rfl, -, h4, h5, h6⟩ | ⟨-, h0, h5, h6, f', es', ls', j, h7, h8, h9⟩
  · rw [hmis] at h4; cases h4
  · exact absurd h4 hne
  · exact .inl ⟨rfl, by omega, h5⟩
  · refine .inr (.inl ⟨rfl, by omega, h6, fun m W hm hm2 hXm hlm hW hfit hlist => ?_⟩)
    rw [filesF_len] at hfit hlist
    have hwl := wantF_len l
    have hll := h1.ok.list_len
    have hll2 := h1.ok.list_len2
    refine room_ok h1.ok h1.n0 hP h4 m W hm hm2 (fun e he => ?_) (fun z hz h0 => hlm z (want_mem hz) (mem_wantF.1 hz).2 h0) hW (by omega) ?_ h5
    · rw [← h1.ok.cont_len (fun i hi => h1.dv.whole64 hi) e he]
      exact hXm (e.1, contE F e) (List.mem_map.2 ⟨e, he, rfl⟩)
    · have : (es.length + (wantF l).length) * m ≤ (es.length + l.length) * m := Nat.mul_le_mul_right m (by omega)
      omega
  · refine .inr (.inr ⟨by omega, h5, h6, h.offs_below h5, ?_⟩)
    rcases h9 with ⟨rfl, F', h10, h11⟩ | ⟨rfl, h10, h11, S', h12, h13⟩
    · exact .inl ⟨rfl, _, by rw [tickN_calls]; omega, ⟨⟨F', f', es', ls', h10, h11, by omega⟩⟩⟩
    · refine .inr ⟨rfl, ⟨es, ls, h11⟩, ⟨S', _, h10, h12, fun keep => ?_⟩, h1.n0⟩
      obtain ⟨F3, h14, ⟨h15, h16⟩ | ⟨h15, h16⟩⟩ := h13 keep
      · exact ⟨F3, f, es, ls, h14, h15, .inl h16, by omega⟩
      · exact ⟨F3, f', es', ls', h14, h15, .inr h16, by omega⟩
theorem noStore_dev {S : Nat → Sec} (h : DV w M d g n S L) : NoStore w [d, g] := by
  intro k hk cs t fr hc
  obtain ⟨cur, hr, -⟩ := h.row.row
  simp only [List.mem_cons, List.not_mem_nil, or_false] at hk
  rcases hk with rfl | rfl
  · rw [h.blk] at hc
    simp only [Option.some.injEq, Obj.cells.injEq] at hc
    rw [← hc.2.1]
    exact ⟨by decide, by decide, by decide⟩
  · rw [hr] at hc
    simp only [Option.some.injEq, Obj.cells.injEq] at hc
    rw [← hc.2.1]
    exact ⟨by decide, by decide, by decide⟩
theorem fuse_ok (h : LW w M s d g p n L t X) (k : Int) (hk0 : -9223372036854775808 ≤ k) (hk1 : k ≤ 9223372036854775807) : Calls Tryz.prog 18 #[.pointer (some ⟨d, 0, none⟩), .int .i64 k] w fun e w' => e = .returned (.tuple #[]) ∧ LW w' M s d g p n (L.fuseTo k) t X ∧ Two d (some g) w w' := by
  obtain ⟨F, f, es, ls, h1, h2, h3⟩ := h.out
  refine (dfuse_c h1.dv k hk0 hk1).mono ?_
  rintro e w' ⟨rfl, h4, h5⟩
  refine ⟨rfl, ⟨⟨F, f, es, ls, ⟨h1.st.offs (Offs.two h5) (noStore_dev h1.dv), h4, ?_, h1.ok, h1.n0⟩, h2, h3⟩⟩, h5⟩
  obtain ⟨tx, hs⟩ := h1.su
  exact ⟨tx, hs.two h1.dv h5⟩
theorem fuse_down (h : LX w M s d g p n t X Y) (k : Int) (hk0 : -9223372036854775808 ≤ k) (hk1 : k ≤ 9223372036854775807) : Calls Tryz.prog 18 #[.pointer (some ⟨d, 0, none⟩), .int .i64 k] w fun e w' => e = .returned (.tuple #[]) ∧ LX w' M s d g p n t X Y ∧ Two d (some g) w w' := by
  obtain ⟨es, ls, h1⟩ := h.st
  obtain ⟨S', L', h2, h3, h4⟩ := h.dv
  refine (dfuse_c h3 k hk0 hk1).mono ?_
  rintro e w' ⟨rfl, h5, h6⟩
  have e1 : L'.fuseTo k = L' := by unfold Life.fuseTo; rw [if_pos h2]
  rw [e1] at h5
  exact ⟨rfl, ⟨⟨es, ls, h1.offs (Offs.two h6) (noStore_dev h3)⟩, ⟨S', L', h2, h5, h4⟩, h.n0⟩, h6⟩
theorem crash_down (h : LX w M s d g p n t X Y) (kv : Value) (keep : List Bool) (hv : RV w kv (zb keep)) : Calls Tryz.prog 19 #[.pointer (some ⟨d, 0, none⟩), kv] w fun e w' => ∃ d' g' Z, e = .returned (.pointer (some ⟨d', 0, none⟩)) ∧ (Z = X ∨ Z = Y) ∧ LD w' w.heap.size d' g' n t Z ∧ Below w.heap.size w w' := by
  obtain ⟨S', L', h2, h3, h4⟩ := h.dv
  obtain ⟨F3, f3, es3, ls3, h5, h6, h7, h8⟩ := h4 keep
  refine (dcrash_c h3 kv keep hv).mono ?_
  rintro e w' ⟨d', g', rfl, h9, h10⟩
  rw [h5] at h9
  exact ⟨d', g', filesF F3 es3, rfl, h7, ⟨⟨F3, f3, es3, ls3, h9, h6, rfl, h8⟩, h.n0⟩, h10⟩
theorem down_yes (h : LX w M s d g p n t X Y) : Calls Tryz.prog 15 #[.pointer (some ⟨s, 0, none⟩)] w fun e w' => e = .returned (.bool true) ∧ w = w' := by
  obtain ⟨es, ls, h1⟩ := h.st
  exact odown_c h1
set_option maxRecDepth 100000 in
theorem apply_down (h : LX w M s d g p n t X Y) (v : Value) : Calls Tryz.prog 16 #[.pointer (some ⟨s, 0, none⟩), v] w fun e w' => e = .returned (.int .i64 7) ∧ w = w' := by
  have C := Go.Lib.hid (down_yes h)
  clear h
  go_enter Tryz.func16, Tryz.ntmps16
  go_wp2_with fail
  refine C.out.mono ?_
  rintro e w1 ⟨rfl, rfl⟩
  go_wp2_with fail
  go_ret
  exact ⟨rfl, rfl⟩
theorem LX.low (h : LX w M s d g p n t X Y) : M ≤ s ∧ M ≤ d ∧ M ≤ g := by
  obtain ⟨es, ls, h1⟩ := h.st
  obtain ⟨S', L', h2, h3, h4⟩ := h.dv
  exact ⟨h1.low, h3.lowd, h3.lowg⟩
theorem LX.size (h : LX w M s d g p n t X Y) : M ≤ w.heap.size := by
  obtain ⟨es, ls, h1⟩ := h.st
  have := h1.low
  have := h1.lt
  omega
/-- The device behind a crash: nothing is loose. -/
theorem loose_none (h : LD w M d g n t X) : Calls Tryz.prog 21 #[.pointer (some ⟨d, 0, none⟩)] w fun e w' => ∃ a c, e = .returned (.slice a 0 c) ∧ Below w.heap.size w w' := by
  obtain ⟨F, f, es, ls, h1, -⟩ := h.out
  refine (dloose_c h1).mono ?_
  rintro e w' ⟨v, rfl, h2, h3⟩
  rw [show looseL (lf (calmS F)) n = [] from looseL_none fun j _ => rfl] at h2
  obtain ⟨a, c, rfl, -⟩ := h2.rv.form
  exact ⟨a, c, rfl, h3⟩
/-- The device of a store that lives: nothing is loose. -/
theorem LW.loose (h : LW w M s d g p n L t X) : Calls Tryz.prog 21 #[.pointer (some ⟨d, 0, none⟩)] w fun e w' => ∃ a c, e = .returned (.slice a 0 c) ∧ Below w.heap.size w w' := by
  obtain ⟨F, f, es, ls, h1, -⟩ := h.out
  refine (dloose_c h1.dv).mono ?_
  rintro e w' ⟨v, rfl, h2, h3⟩
  rw [show looseL (lf (calmS F)) n = [] from looseL_none fun j _ => rfl] at h2
  obtain ⟨a, c, rfl, -⟩ := h2.rv.form
  exact ⟨a, c, rfl, h3⟩
end

end Go.Proofs.YtnalokjnbccjnaaGreatDoor
