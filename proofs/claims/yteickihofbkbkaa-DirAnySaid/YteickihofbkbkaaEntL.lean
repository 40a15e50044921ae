/-
  The law's Cut of entries.
-/
import Derived.Test.YteickihofbkbkaaEntC
import Derived.Test.YteickihofbkbkaaLCut
import Derived.Test.YteickihofbkbkaaEntR
namespace Go.Proofs.Yteickihofbkbkaa
open Go.RowKit

def cutE (x : EntT) : EntT := (str ((bl x.1).take 22), x.2.1, x.2.2.1, x.2.2.2)

set_option maxHeartbeats 2000000 in
set_option maxRecDepth 100000 in
theorem cut_c (v : Value) (l : List EntT) (w : World) (hv : REnt w v l) :
    Calls Try.prog 8 #[v] w fun e w' => ∃ v', e = .returned v' ∧ OwnE w' w.heap.size v' ((l.take 34).map cutE) ∧ Below w.heap.size w w' := by
  have Hok := Go.Lib.hid hv.2
  obtain ⟨a, cap, rfl, hm⟩ := hv.1.form
  have HR := Go.Lib.hid hv.1; clear hv
  go_enter Try.func8, Try.ntmps8
  go_wp2_with fail
  go_loopw [3, 4] (fun vb i wr => ∃ (k : Nat) (u : Value), u = vb ∧ k ≤ l.length ∧ k ≤ 34 ∧ i = .int .i64 (k : Int) ∧ OwnE wr w.heap.size u ((l.take k).map cutE) ∧ Below w.heap.size w wr) (fun _ i _ => 34 - (intOf i).toNat)
  case atStart => exact ⟨0, _, rfl, by omega, by omega, rfl, by simpa using OwnE.nil _ _, Below.refl _ _⟩
  case round =>
    obtain ⟨k, u, rfl, hk, hkn, rfl, hown, hbc⟩ := hrel
    by_cases hlt : k < l.length
    · by_cases hltn : k < 34
      · obtain ⟨b, o, rfl, -, hbs, c0, c1, c2, c3⟩ := (HR.out.below hbc).at k hlt
        have ok := Hok.out l[k] (List.getElem_mem hlt)
        have hsn : (l.take (k + 1)).map cutE = (l.take k).map cutE ++ [cutE l[k]] := by rw [List.take_succ_eq_append_getElem hlt, List.map_append]; rfl
        have hml : ((l.take k).map cutE).length ≤ 1000 := by rw [List.length_map, List.length_take]; omega
        generalize l[k] = x at *
        obtain ⟨nm, n, ea, es⟩ := x
        obtain ⟨ok1, -⟩ := ok
        simp only [] at c0 c1 c2 c3 ok1
        have C1 := Go.Lib.hid fun W => lcut_c nm 22 W ok1 (by omega)
        have hcx : cutE (nm, n, ea, es) = (str ((bl nm).take 22), n, ea, es) := rfl
        rw [hcx] at hsn
        clear hcx
        generalize (l.take k).map cutE = m at *
        generalize str ((bl nm).take 22) = nm2 at *
        have Hsn := Go.Lib.hid hsn
        have HM := Go.Lib.hid hml
        have Hlt := Go.Lib.hid hlt
        have Hltn := Go.Lib.hid hltn
        have hnew := heap_alloc_new wr (entO nm n ea es)
        obtain ⟨x0, x1, x2, x3⟩ := row4 hnew
        have f0 : (wr.alloc (entO nm n ea es)).frozen? ⟨wr.heap.size, 0, none⟩ = false := frozen_of_row _ _ 0 _ _ hnew
        have hnew2 := heap_alloc_new wr (entO nm2 n ea es)
        have hbn := newB wr (entO nm2 n ea es)
        have hs1 : (wr.alloc (entO nm2 n ea es)).heap.size = wr.heap.size + 1 := by simp
        have hbb := hbc.trans (hbn.mono hbc.size)
        have hown2 := hown.below hbn
        have hone := RE.one (wr.alloc (entO nm2 n ea es)) nm2 n ea es
        have hbn3 := newB (wr.alloc (entO nm2 n ea es)) (entO nm2 n ea es)
        have hbb3 := hbb.trans (hbn3.mono hbb.size)
        have hown3 := hown2.below hbn3
        rw [hs1] at hone
        obtain ⟨y0, y1, y2, y3⟩ := row4 hnew2
        have HX := Go.Lib.hid hone
        have HO3 := Go.Lib.hid hown3
        have HB3 := Go.Lib.hid hbb3
        unfold entO at x0 x1 x2 x3 f0 y0 y1 y2 y3 HX HO3 HB3
        have HL3 := Go.Lib.hid (show m.length + [(nm2, n, ea, es)].length ≤ 1000000 by simp; omega)
        clear hsn hml hnew hnew2 hbn hbn3 hs1 hown2 hown3 hbb hbb3 hown hbc hbs ok1 hone
        go_upto_region 7 with (first | (go_at_call 9; refine (C1.out _).mono ?_; rintro e w2 ⟨rfl, rfl⟩) | fail)
        clear x0 x1 x2 x3 f0 c0 c1 c2 c3 C1
        go_wp2_with (first
          | (with_reducible show wpList _ _ _ (⟨some 27, _, _, _, _, _⟩ :: _) _ _; go_loud (refine wpList_append_ents rfl (.tmp 24) (.tmp 26) rfl w.heap.size u (.slice (some ⟨wr.heap.size + 1, 0, none⟩) 1 1) m [(nm2, n, ea, es)] rfl rfl HO3.out HX.out HL3.out HB3.out.size ?_); intro v6 w6 hown6 hg6)
          | fail)
        rw [← Hsn.out] at hown6
        have HB6 := Go.Lib.hid (HB3.out.grown hg6 HB3.out.size HO3.out.row)
        have HO6 := Go.Lib.hid hown6
        clear hown6 hg6 y0 y1 y2 y3 HX HO3 HB3 HL3
        go_roundw
        case rel => exact ⟨k + 1, _, rfl, by have := Hlt.out; omega, by have := Hltn.out; omega, by go_num, HO6.out, HB6.out⟩
        case measure => simp only [intOf]; have := Hltn.out; omega
      · obtain rfl : k = 34 := by omega
        go_wp2_with fail
        go_ret
        exact ⟨_, rfl, hown, hbc⟩
    · obtain rfl : k = l.length := by omega
      rw [List.take_of_length_le (Nat.le_refl _)] at hown
      have he : Hid (l.map cutE = (l.take 34).map cutE) := by unfold Hid; rw [List.take_of_length_le hkn]
      rw [he.out] at hown
      go_wp2_with fail
      go_ret
      exact ⟨_, rfl, hown, hbc⟩

end Go.Proofs.Yteickihofbkbkaa
