/-
  Stage 22: List, Bytes.
  Records: contract of the reference's Read.
  Package value: contracts of getOf, Get.
-/
import Derived.Test.YtibbligidncocaaM34
import Derived.Test.YtibbligidncocaaM25
import Derived.Test.YtibbligidncocaaM37
import Derived.Test.YtibbligidncocaaM38
import Derived.Test.YtibbligidncocaaM19
import Derived.Test.YtibbligidncocaaM23
import Derived.Test.YtibbligidncocaaM22
namespace Go.Proofs.Ytibbligidncocaa
open Go.RowKit

set_option maxHeartbeats 2000000 in
set_option maxRecDepth 100000 in
theorem slist_c {w : World} {B p : Nat} {P : List RecT} (h : SW w B p P) :
    Calls Try.prog 27 #[.pointer (some ⟨p, 0, none⟩)] w fun e w' => ∃ v, e = .returned v ∧ K4.O w' w.heap.size v P ∧ Below w.heap.size w w' := by
  obtain ⟨u, us, b, ub, h⟩ := h
  have hL := mayP_len h.may
  have HSZ := Go.Lib.hid (mayP_sizes h.may)
  obtain ⟨a, cap, rfl, hm⟩ := h.own.r.form
  have HX := Go.Lib.hid (show ∀ W, Below w.heap.size w W → _ from fun W hb => (h.below hb).cells)
  have HRP := Go.Lib.hid (show ∀ W, Below w.heap.size w W → K4.R W (.slice a P.length cap) P from fun W hb => (h.below hb).own.r)
  obtain ⟨x0, x1, x2⟩ := h.cells
  clear h
  obtain ⟨g, hg⟩ : ∃ g, g = w.heap.size := ⟨_, rfl⟩
  have HG := Go.Lib.hid hg
  rw [← hg] at HX HRP ⊢
  clear hg
  go_enter Try.func27, Try.ntmps27
  go_upto_region 4 with (first
    | (with_reducible show wpList _ _ _ (⟨some 13, _, _, _, _, _⟩ :: _) _ _; go_loud (refine K4_ok.make0 rfl (.const (.int .i64 0)) (.tmp 12) rfl .i64 _ P.length rfl rfl rfl (by omega) ?_); intro g5 w5 ho5 hg5 hgr5; clear hg5)
    | fail)
  have hb5 : Below g w w5 := by rw [HG.out]; exact (Below.refl _ w).grown hgr5 (Nat.le_refl _) (fun k hk => by cases hk)
  have HB5 := Go.Lib.hid hb5
  have HO5 := Go.Lib.hid (show K4.O w5 g (.slice (some ⟨g5, 0, none⟩) 0 P.length) (P.take 0) from by rw [HG.out]; exact ho5)
  obtain ⟨x0, x1, x2⟩ := HX.out w5 hb5
  clear hb5 ho5 hgr5
  go_wp2_with fail
  go_loopw [3, 19] (fun lv kv wr => ∃ (k : Nat) (z : Value), z = lv ∧ k ≤ P.length ∧ kv = .int .i64 (k : Int) ∧ Hid (K4.O wr g z (P.take k)) ∧ Hid (Below g w wr)) (fun _ kv _ => P.length - (intOf kv).toNat)
  case atStart => exact ⟨0, _, rfl, by omega, rfl, HO5, HB5⟩
  case round =>
    clear HO5 HB5 x0 x1 x2
    obtain ⟨k, z, rfl, hk, rfl, HO, HB⟩ := hrel
    by_cases hlt : k < P.length
    · obtain ⟨bb, o, rfl, -, -, c0, c1, c2, c3⟩ := K4.at' (HRP.out _ HB.out) k hlt
      have hix := idx4 bb o P.length cap k hlt
      have hsz := HSZ.out _ (List.getElem_mem hlt)
      have HT := Go.Lib.hid (List.take_succ_eq_append_getElem hlt)
      generalize P[k] = x at *
      obtain ⟨kx, gx, ax, nx, sx⟩ := x
      simp only [] at c0 c1 c2 c3 hsz
      have CF := Go.Lib.hid fun W => fpair_c kx ax nx sx W (by omega) (by omega)
      have hgw : g ≤ wr.heap.size := by have := HB.out.size; have := HG.out; omega
      have hbA := below_one wr (.cells #[.string kx, .int .i64 ax, .int .i64 nx, .string sx] 42)
      have HX4 := Go.Lib.hid (heap_alloc_new wr (.cells #[.string kx, .int .i64 ax, .int .i64 nx, .string sx] 42))
      have HO4 := Go.Lib.hid (HO.out.below hbA)
      have HB4 := Go.Lib.hid (HB.out.trans (hbA.mono hgw))
      clear hbA hsz HO HB hgw
      go_upto_region 7 with (fail)
      obtain ⟨g3, hg3⟩ : ∃ g, g = wr.heap.size := ⟨_, rfl⟩
      rw [← hg3] at HX4 ⊢
      clear hg3 c0 c1 c2 c3 hix
      generalize wr.alloc (.cells #[.string kx, .int .i64 ax, .int .i64 nx, .string sx] 42) = w4 at *
      obtain ⟨y0, y1, y2, y3⟩ := pair4 HX4.out
      go_wp2_with fail
      refine (CF.out _).mono ?_
      rintro e w6 ⟨rfl, hc⟩
      have hgw : g ≤ w4.heap.size := by have := HB4.out.size; have := HG.out; omega
      have hbB := below_one w6 (.cells #[.string kx, .int .i64 ax, .int .i64 nx, .string sx] 42)
      have hcB := hc.trans (hbB.mono hc.size)
      have HON := Go.Lib.hid (K4.one1 w6 (kx, gx, ax, nx, sx))
      simp only [] at HON
      have HO7 := Go.Lib.hid (HO4.out.below hcB)
      have HB7 := Go.Lib.hid (HB4.out.trans (hcB.mono hgw))
      clear hc hbB hcB CF HX4 HO4 HB4 hgw y0 y1 y2 y3
      go_wp2_with (first
        | (with_reducible show wpList _ _ _ (⟨some 27, _, _, _, _, _⟩ :: _) _ _; go_loud (refine K4_ok.append rfl (.tmp 23) (.tmp 26) rfl g z (.slice (some ⟨w6.heap.size, 0, none⟩) 1 1) (P.take k) [(kx, gx, ax, nx, sx)] rfl rfl HO7.out HON.out (by simp; omega) (by have := HB7.out.size; have := HG.out; omega) ?_); intro v8 w8 ho8 hg8)
        | fail)
      have HO8 := Go.Lib.hid (show K4.O w8 g v8 (P.take (k + 1)) by rw [HT.out]; exact ho8)
      have HB8 := Go.Lib.hid (HB7.out.grown hg8 (by have := HB7.out.size; have := HG.out; omega) (fun j hj => HO7.out.row j hj))
      clear ho8 hg8
      go_wp2_with fail
      exact ⟨⟨k + 1, _, rfl, by omega, by go_num, HO8, HB8⟩, by simp only [intOf]; omega⟩
    · obtain rfl : k = P.length := by omega
      go_wp2_with fail
      go_ret
      exact ⟨_, rfl, by have := HO.out; rwa [List.take_length] at this, HB.out⟩

theorem plain_ok {x : RecT} (h : RecOk x) : RecOk (plainR x) := h
theorem plain_row {P : List RecT} (h : mayP P = true) : rowE (P.map plainR) = rowB (P.map plainR) := by
  unfold rowE
  rw [if_pos]
  rw [mayRow_iff]
  refine ⟨by rw [List.length_map]; exact mayP_len h, fun x hx => ?_⟩
  obtain ⟨y, hy, rfl⟩ := List.mem_map.1 hx
  exact (mayP_sort.1 h).2.1 y hy

set_option maxHeartbeats 2000000 in
set_option maxRecDepth 100000 in
theorem sbytes_c {w : World} {B p : Nat} {P : List RecT} (h : SW w B p P) (hok : ∀ x ∈ P, RecOk x) :
    Calls Try.prog 16 #[.pointer (some ⟨p, 0, none⟩)] w fun e w' => ∃ v, e = .returned v ∧ Own 5 w' w.heap.size v (rowB (P.map plainR)) ∧ Below w.heap.size w w' := by
  have HPR := Go.Lib.hid (plain_row h.may)
  have HPO := Go.Lib.hid (show ∀ x ∈ P.map plainR, RecOk x from fun x hx => by
    obtain ⟨y, hy, rfl⟩ := List.mem_map.1 hx
    exact plain_ok (hok y hy))
  obtain ⟨u, us, b, ub, h⟩ := h
  have hL := mayP_len h.may
  obtain ⟨a, cap, rfl, hm⟩ := h.own.r.form
  have HX := Go.Lib.hid (show ∀ W, Below w.heap.size w W → _ from fun W hb => (h.below hb).cells)
  have HRP := Go.Lib.hid (show ∀ W, Below w.heap.size w W → K4.R W (.slice a P.length cap) P from fun W hb => (h.below hb).own.r)
  obtain ⟨x0, x1, x2⟩ := h.cells
  clear h hok
  rw [← HPR.out]
  obtain ⟨g, hg⟩ : ∃ g, g = w.heap.size := ⟨_, rfl⟩
  have HG := Go.Lib.hid hg
  rw [← hg] at HX HRP ⊢
  clear hg
  go_enter Try.func16, Try.ntmps16
  go_upto_region 4 with (first
    | (with_reducible show wpList _ _ _ (⟨some 13, _, _, _, _, _⟩ :: _) _ _; go_loud (refine K5_ok.make0 rfl (.const (.int .i64 0)) (.tmp 12) rfl .i64 _ P.length rfl rfl rfl (by omega) ?_); intro g5 w5 ho5 hg5 hgr5; clear hg5)
    | fail)
  have hb5 : Below g w w5 := by rw [HG.out]; exact (Below.refl _ w).grown hgr5 (Nat.le_refl _) (fun k hk => by cases hk)
  have HB5 := Go.Lib.hid hb5
  have HO5 := Go.Lib.hid (show OwnRec w5 g (.slice (some ⟨g5, 0, none⟩) 0 P.length) ((P.take 0).map plainR) from by rw [HG.out]; exact Eq.mpr own5 ho5)
  obtain ⟨x0, x1, x2⟩ := HX.out w5 hb5
  clear hb5 ho5 hgr5
  go_wp2_with fail
  go_loopw [3, 19] (fun lv kv wr => ∃ (k : Nat) (z : Value), z = lv ∧ k ≤ P.length ∧ kv = .int .i64 (k : Int) ∧ Hid (OwnRec wr g z ((P.take k).map plainR)) ∧ Hid (Below g w wr)) (fun _ kv _ => P.length - (intOf kv).toNat)
  case atStart => exact ⟨0, _, rfl, by omega, rfl, HO5, HB5⟩
  case round =>
    clear HO5 HB5 x0 x1 x2
    obtain ⟨k, z, rfl, hk, rfl, HO, HB⟩ := hrel
    by_cases hlt : k < P.length
    · obtain ⟨bb, o, rfl, -, -, c0, c1, c2, c3⟩ := K4.at' (HRP.out _ HB.out) k hlt
      have hix := idx4 bb o P.length cap k hlt
      have HT := Go.Lib.hid (show (P.take (k + 1)).map plainR = (P.take k).map plainR ++ [(P[k].1, false, P[k].2.2.1, P[k].2.2.2.1, P[k].2.2.2.2)] by rw [List.take_succ_eq_append_getElem hlt, List.map_append]; rfl)
      generalize P[k] = x at *
      obtain ⟨kx, gx, ax, nx, sx⟩ := x
      simp only [] at c0 c1 c2 c3 HT
      have CF := Go.Lib.hid fun W => srec_c kx ax nx sx W
      have hgw : g ≤ wr.heap.size := by have := HB.out.size; have := HG.out; omega
      have hbA := below_one wr (.cells #[.string kx, .int .i64 ax, .int .i64 nx, .string sx] 42)
      have HX4 := Go.Lib.hid (heap_alloc_new wr (.cells #[.string kx, .int .i64 ax, .int .i64 nx, .string sx] 42))
      have HO4 := Go.Lib.hid (HO.out.below hbA)
      have HB4 := Go.Lib.hid (HB.out.trans (hbA.mono hgw))
      clear hbA HO HB hgw
      go_upto_region 7 with (fail)
      obtain ⟨g3, hg3⟩ : ∃ g, g = wr.heap.size := ⟨_, rfl⟩
      rw [← hg3] at HX4 ⊢
      clear hg3 c0 c1 c2 c3 hix
      generalize wr.alloc (.cells #[.string kx, .int .i64 ax, .int .i64 nx, .string sx] 42) = w4 at *
      obtain ⟨y0, y1, y2, y3⟩ := pair4 HX4.out
      go_wp2_with fail
      refine (CF.out _).mono ?_
      rintro e w6 ⟨rfl, hc⟩
      have hgw : g ≤ w4.heap.size := by have := HB4.out.size; have := HG.out; omega
      have hbB := below_one w6 (.cells #[.string kx, .bool false, .int .i64 ax, .int .i64 nx, .string sx] 39)
      have hcB := hc.trans (hbB.mono hc.size)
      have HON := Go.Lib.hid (RS.one w6 (kx, false, ax, nx, sx))
      simp only [] at HON
      have HO7 := Go.Lib.hid (HO4.out.below hcB)
      have HB7 := Go.Lib.hid (HB4.out.trans (hcB.mono hgw))
      have HLN := Go.Lib.hid (show ((P.take k).map plainR).length + [((kx, false, ax, nx, sx) : RecT)].length ≤ 1000000 by simp; omega)
      clear hc hbB hcB CF HX4 HO4 HB4 hgw y0 y1 y2 y3
      go_wp2_with (first
        | (with_reducible show wpList _ _ _ (⟨some 27, _, _, _, _, _⟩ :: _) _ _; go_loud (refine wpList_append_recs rfl (.tmp 23) (.tmp 26) rfl g z (.slice (some ⟨w6.heap.size, 0, none⟩) 1 1) ((P.take k).map plainR) [(kx, false, ax, nx, sx)] rfl rfl HO7.out HON.out HLN.out (by have := HB7.out.size; have := HG.out; omega) ?_); intro v8 w8 ho8 hg8)
        | fail)
      have HO8 := Go.Lib.hid (show OwnRec w8 g v8 ((P.take (k + 1)).map plainR) by rw [HT.out]; exact ho8)
      have HB8 := Go.Lib.hid (HB7.out.grown hg8 (by have := HB7.out.size; have := HG.out; omega) (fun j hj => HO7.out.row j hj))
      clear ho8 hg8
      go_wp2_with fail
      exact ⟨⟨k + 1, _, rfl, by omega, by go_num, HO8, HB8⟩, by simp only [intOf]; omega⟩
    · obtain rfl : k = P.length := by omega
      have HO := Go.Lib.hid (show OwnRec wr g z (P.map plainR) from by have := HO.out; rwa [List.take_length] at this)
      have CE := Go.Lib.hid (bencode_c z (P.map plainR) wr HO.out.rs HPO.out)
      clear HO HPO HPR
      go_wp2_with fail
      refine CE.out.mono ?_
      rintro e w4 ⟨v4, rfl, ho, hc⟩
      have hgw : g ≤ wr.heap.size := by have := HB.out.size; have := HG.out; omega
      have HO := Go.Lib.hid (ho.mono hgw)
      have HB := Go.Lib.hid (HB.out.trans (hc.mono hgw))
      clear ho hc CE hgw
      go_wp2_with fail
      go_ret
      exact ⟨_, rfl, HO.out, HB.out⟩

end Go.Proofs.Ytibbligidncocaa

namespace Go.Proofs.Ytibbligidncocaa
open Go.RowKit
open Go.Lib (uvarint zigzag)

def rr (r : RdT) : Value := .tuple #[recV (str r.1.1) r.1.2.1 r.1.2.2.1 r.1.2.2.2.1 (str r.1.2.2.2.2), .int .i64 (r.2.1 : Int), .int .i64 r.2.2]

end Go.Proofs.Ytibbligidncocaa

namespace Go.Proofs.Ytibbligidncocaa
open Go.RowKit

/-- What stands behind the kind. -/
def goR (k : Int) (l : List UInt8) : (Int × Int × List UInt8) × Nat × Int :=
  if k = 1 then ((1, (getB l).1, []), (getB l).2.1, (getB l).2.2) else if k = 2 then ((2, 0, (textB l).1), (textB l).2.1, (textB l).2.2) else ((0, 0, []), 0, 1)

theorem valB_go (l : List UInt8) (k : Int) (p : Nat) (h : getB l = (k, p, 0)) (r : Int × Int × List UInt8) (m : Nat) (e : Int) (g : goR k (l.drop p) = (r, m, e)) :
    valB l = if e = 0 then (if mayR r.1 r.2.1 (str r.2.2) then (r, p + m, 0) else ((0, 0, []), 0, 1)) else ((0, 0, []), 0, e) := by
  unfold goR at g
  split at g
  · rename_i hk
    subst hk
    rw [valB_num l p _ _ _ h rfl]
    simp only [Prod.mk.injEq] at g
    obtain ⟨rfl, rfl, rfl⟩ := g
    have : ∀ n, mayR 1 n (str []) = true := fun n => by unfold mayR; simp [str]
    simp only [this, if_true]
    rfl
  · split at g
    · rename_i hk
      subst hk
      rw [valB_text l _ p _ _ h rfl]
      simp only [Prod.mk.injEq] at g
      obtain ⟨rfl, rfl, rfl⟩ := g
      rfl
    · rename_i h1 h2
      rw [valB_else l k p h h1 h2]
      simp only [Prod.mk.injEq] at g
      obtain ⟨rfl, rfl, rfl⟩ := g
      simp

theorem goR_small {k : Int} {l : List UInt8} {r : Int × Int × List UInt8} {m : Nat} {e : Int} (h : goR k l = (r, m, e)) (he : e = 0) : r.2.2.length ≤ 65536 ∧ m ≤ 70000 := by
  unfold goR at h
  split at h
  · have := getB_fits l
    simp only [Prod.mk.injEq] at h
    obtain ⟨rfl, rfl, rfl⟩ := h
    simp
    omega
  · split at h
    · simp only [Prod.mk.injEq] at h
      obtain ⟨rfl, rfl, rfl⟩ := h
      exact textB_small (l := l) rfl he
    · simp only [Prod.mk.injEq] at h
      obtain ⟨rfl, rfl, rfl⟩ := h
      simp

theorem ret_gof_at {w w0 : World} {tmps : Array Value} {k n : Int} {s : ByteArray} {m : Nat} {e : Int} {g : Nat} {fr : Nat × Nat} {r : (Int × Int × List UInt8) × Nat × Int}
    (hp : tmps.getD 4 undef = .pointer (some ⟨g, 0, none⟩)) (hg : w.heap[g]? = some (.cells #[.int .i64 k, .int .i64 n, .string s] 37 fr)) (h3 : tmps.getD 5 undef = .int .i64 (m : Int)) (h4 : tmps.getD 6 undef = .int .i64 e)
    (hr : ((k, n, bl s), m, e) = r) (hb : Below w0.heap.size w0 w) : bodyPost Try.prog Try.f103 (fun e w' => e = .returned (vv r) ∧ Below w0.heap.size w0 w') Exit.ret { tmps := tmps, defers := [] } w := by
  subst hr
  have h := results_row_two (P := Try.prog) (fn := Try.f103) (p := 4) (u := 5) (v := 6) (ty := 37) rfl tmps w g 37 #[.int .i64 k, .int .i64 n, .string s] fr _ hp hg Try.underlying37 rfl (by kernel_rfl)
  rw [h3, h4] at h
  refine bodyPost_ret h rfl ⟨?_, hb⟩
  unfold vv rawV
  rw [str_bl]

theorem ret_vget_at {w w0 : World} {tmps : Array Value} {k n : Int} {s : ByteArray} {m : Nat} {e : Int} {g : Nat} {fr : Nat × Nat} {r : (Int × Int × List UInt8) × Nat × Int}
    (hp : tmps.getD 2 undef = .pointer (some ⟨g, 0, none⟩)) (hg : w.heap[g]? = some (.cells #[.int .i64 k, .int .i64 n, .string s] 37 fr)) (h3 : tmps.getD 3 undef = .int .i64 (m : Int)) (h4 : tmps.getD 4 undef = .int .i64 e)
    (hr : ((k, n, bl s), m, e) = r) (hb : Below w0.heap.size w0 w) : bodyPost Try.prog Try.f99 (fun e w' => e = .returned (vv r) ∧ Below w0.heap.size w0 w') Exit.ret { tmps := tmps, defers := [] } w := by
  subst hr
  have h := results_row_two (P := Try.prog) (fn := Try.f99) (p := 2) (u := 3) (v := 4) (ty := 37) rfl tmps w g 37 #[.int .i64 k, .int .i64 n, .string s] fr _ hp hg Try.underlying37 rfl (by kernel_rfl)
  rw [h3, h4] at h
  refine bodyPost_ret h rfl ⟨?_, hb⟩
  unfold vv rawV
  rw [str_bl]

set_option maxRecDepth 100000 in
theorem getOf_c (k : Int) (v : Value) (l : List UInt8) (w : World) (hv : RB w v l) :
    Calls Try.prog 103 #[.int .i64 k, v] w fun e w' => e = .returned (vv (goR k l)) ∧ Below w.heap.size w w' := by
  have hrb := hv
  obtain ⟨a, cap, rfl, -⟩ := hv
  have hR1 := Go.Lib.hid (hrb.below (below_one w (.cells #[.int .i64 0, .int .i64 0, .string ⟨#[]⟩] 37)))
  clear hrb
  by_cases h1 : k = 1
  · subst h1
    have C := Go.Lib.hid fun W h => get_c (.slice a l.length cap) l W h
    have hr : Hid (((1, (getB l).1, bl ⟨#[]⟩), (getB l).2.1, (getB l).2.2) = goR 1 l) := rfl
    unfold gv at C
    generalize (getB l).1 = n at *
    generalize (getB l).2.1 = p at *
    generalize (getB l).2.2 = er at *
    go_enter Try.func103, Try.ntmps103
    go_wp2_with fail
    refine (C.out _ hR1.out).mono ?_
    rintro e w1 ⟨rfl, rfl⟩
    go_wp2_with fail
    exact ret_gof_at rfl (heap_alloc_new ..) rfl rfl hr.out (below_one ..)
  · by_cases h2 : k = 2
    · subst h2
      have C := Go.Lib.hid fun W h => getText_c (.slice a l.length cap) l W h
      have hr : Hid (((2, 0, bl (str (textB l).1)), (textB l).2.1, (textB l).2.2) = goR 2 l) := by unfold Hid; rw [bl_str]; rfl
      unfold tv at C
      generalize str (textB l).1 = s at *
      generalize (textB l).2.1 = p at *
      generalize (textB l).2.2 = er at *
      go_enter Try.func103, Try.ntmps103
      go_wp2_with fail
      refine (C.out _ hR1.out).mono ?_
      rintro e w1 ⟨rfl, rfl⟩
      go_wp2_with fail
      exact ret_gof_at rfl (heap_alloc_new ..) rfl rfl hr.out (below_one ..)
    · have h1' : (k == 1) = false := by simp [h1]
      have h2' : (k == 2) = false := by simp [h2]
      have hr : Hid (((0, 0, bl ⟨#[]⟩), 0, 1) = goR k l) := by unfold Hid goR; rw [if_neg h1, if_neg h2]; rfl
      go_enter Try.func103, Try.ntmps103
      go_wp2_with fail
      exact ret_gof_at (m := 0) rfl (heap_alloc_new ..) rfl rfl hr.out (below_one ..)

set_option maxHeartbeats 2000000 in
set_option maxRecDepth 100000 in
theorem vget_c (v : Value) (l : List UInt8) (w : World) (hv : RB w v l) :
    Calls Try.prog 99 #[v] w fun e w' => e = .returned (vv (valB l)) ∧ Below w.heap.size w w' := by
  have hrb := hv
  obtain ⟨a, cap, rfl, h1, h2, h3, h4⟩ := hv
  have hm : l.length ≤ 9223372036854775807 := by unfold maxLen at h2; omega
  clear h4 h3 h1 h2
  have hfit := getB_fits l
  have c1 := fun W (h : RB W (.slice a l.length cap) l) => get_c (.slice a l.length cap) l W h
  rcases hr : getB l with ⟨k, p, er⟩
  rw [hr] at hfit c1
  unfold gv at c1
  simp only [] at hfit c1
  obtain ⟨f1, f2, f3, f4, f5, f6⟩ := hfit
  have C1 := Go.Lib.hid c1; clear c1
  have Hr := Go.Lib.hid hr; clear hr
  have hR1 := Go.Lib.hid (hrb.below (below_one w (.cells #[.int .i64 0, .int .i64 0, .string ⟨#[]⟩] 37)))
  clear hrb
  by_cases he : er = 0
  · subst he
    rcases hg : goR k (l.drop p) with ⟨⟨k1, n1, s1⟩, m, e⟩
    have hsm := Go.Lib.hid (goR_small hg)
    have hv := Go.Lib.hid (valB_go l k p Hr.out (k1, n1, s1) m e hg)
    have C2 := fun v' W (h : RB W v' (l.drop p)) => getOf_c k v' (l.drop p) W h
    rw [hg] at C2
    unfold vv rawV at C2
    simp only [] at C2
    have C2 := Go.Lib.hid C2
    clear hg f4 f5
    by_cases he : e = 0
    · subst he
      obtain ⟨hs1, hm1⟩ := hsm.out rfl
      have C3 := fun W => vof_c k1 n1 (str s1) W
      unfold ofV rawV VI.val at C3
      have hv2 := hv.out
      rw [if_pos rfl] at hv2
      have hv3 : Hid (valB l = if mayR k1 n1 (str s1) = true then ((k1, n1, bl (str s1)), p + m, 0) else ((0, 0, bl ⟨#[]⟩), 0, 1)) := by unfold Hid; rw [bl_str]; exact hv2
      clear hv2 hv hsm hs1
      generalize hmay : mayR k1 n1 (str s1) = may at C3 hv3
      generalize ofR k1 n1 (str s1) = x at C3
      have hst := store_vi x
      generalize str s1 = q at *
      obtain ⟨e3, he3⟩ : ∃ e3 : Int, (if may = true then (0 : Int) else 1) = e3 := ⟨_, rfl⟩
      rw [he3] at C3
      have he3 := Go.Lib.hid he3
      have C3 := Go.Lib.hid C3
      clear hmay f1 f2
      have hpm : IntKind.i64.wrap ((p : Int) + (m : Int)) = ((p + m : Nat) : Int) := by rw [IntKind.wrap_i64]; omega
      have Hpm := Go.Lib.hid hpm; clear hpm
      go_enter Try.func99, Try.ntmps99
      go_wp2_with fail
      refine (C1.out _ hR1.out).mono ?_
      rintro e w1 ⟨rfl, rfl⟩
      go_wp2_with (first
        | (with_reducible show wpList _ _ _ (⟨some 26, _, _, _, _, _⟩ :: _) _ _; go_loud (refine wpList_slice_l rfl (.tmp 24) (.tmp 25) 33 rfl 5 Try.underlying33 info8 (.slice a l.length cap) l .i64 _ p rfl rfl rfl hR1.out f3 ?_); intro v3 hv3)
        | fail)
      refine (C2.out _ _ hv3).mono ?_
      rintro e w2 ⟨rfl, hb2⟩
      have hlt0 := (Array.getElem?_eq_some_iff.1 (heap_alloc_new w (.cells #[.int .i64 0, .int .i64 0, .string ⟨#[]⟩] 37))).1
      have hA := (hb2.block _ hlt0).trans (heap_alloc_new w _)
      have hbb2 := (below_one w (.cells #[.int .i64 0, .int .i64 0, .string ⟨#[]⟩] 37)).trans (hb2.mono (below_one w _).size)
      clear hb2 hlt0 hv3 hR1 C1 C2
      have HA := Go.Lib.hid hA; clear hA
      have Hb2 := Go.Lib.hid hbb2; clear hbb2
      go_wp2_with fail
      refine (C3.out _).mono ?_
      rintro e w3 ⟨rfl, hb3⟩
      have hltA : w.heap.size < w2.heap.size := (Array.getElem?_eq_some_iff.1 HA.out).1
      have hB := heap_alloc_new w2 (.cells #[.int .i64 k1, .int .i64 n1, .string q] 37)
      have hltB := (Array.getElem?_eq_some_iff.1 hB).1
      have hA3 := (hb3.block w.heap.size (by omega)).trans ((_root_.Go.heap_alloc_old w2 _ hltA).trans HA.out)
      have hB3 := (hb3.block _ hltB).trans hB
      have hbb3 := (Hb2.out.trans ((below_one w2 (.cells #[.int .i64 k1, .int .i64 n1, .string q] 37)).mono Hb2.out.size)).trans (hb3.mono (Nat.le_trans Hb2.out.size (below_one w2 _).size))
      have hltA3 := (Array.getElem?_eq_some_iff.1 hA3).1
      have hltB3 := (Array.getElem?_eq_some_iff.1 hB3).1
      have hA4 := Go.Lib.hid ((_root_.Go.heap_alloc_old w3 (.cells #[x.v] 135) hltA3).trans hA3)
      have hB4 := (_root_.Go.heap_alloc_old w3 (.cells #[x.v] 135) hltB3).trans hB3
      have hbb4 := Go.Lib.hid (hbb3.trans ((below_one w3 (.cells #[x.v] 135)).mono hbb3.size))
      have x0 := cell_of_row _ w2.heap.size 0 _ _ _ hB4
      have x1 := cell_of_row _ w2.heap.size 1 _ _ _ hB4
      have x2 := cell_of_row _ w2.heap.size 2 _ _ _ hB4
      simp only [List.getElem?_toArray, List.getElem?_cons_zero, List.getElem?_cons_succ] at x0 x1 x2
      clear hB4 hltA3 hltB3 hbb3 hB3 hA3 hltB hB hltA hb3 HA Hb2 C3
      cases may with
      | true =>
        obtain rfl := he3.out
        rw [if_pos rfl]
        have hv4 := Go.Lib.hid (hv3.out.trans (if_pos rfl)).symm
        clear hv3
        have hpm := Hpm.out
        clear Hpm
        go_wp2_with (first
          | (with_reducible show wpList _ _ _ (⟨none, Op.store 37 (.tmp 2) (.tmp 44), _, _, _, _⟩ :: _) _ _; go_loud (refine wpList_store_row rfl 37 (.tmp 2) (.tmp 44) rfl w.heap.size #[.int .i64 k1, .int .i64 n1, .string q] rfl rfl 37 _ hA4.out (by kernel_rfl) rfl (raw_cells_one ..) ?_))
          | fail)
        refine ret_vget_at (m := p + m) rfl (setRow_heap _ _ _ _ _ (0, 0) hA4.out) rfl rfl hv4.out (setRow_below _ hbb4.out (Nat.le_refl _))
      | false =>
        obtain rfl := he3.out
        rw [if_neg (by decide)]
        have hv4 := Go.Lib.hid (hv3.out.trans (if_neg (by decide))).symm
        clear hv3 Hpm x0 x1 x2
        go_wp2_with (first
          | (with_reducible show wpList _ _ _ (⟨none, Op.store 37 (.tmp 2) (.tmp 42), _, _, _, _⟩ :: _) _ _; go_loud (refine wpList_store_row rfl 37 (.tmp 2) (.tmp 42) rfl w.heap.size #[.int .i64 0, .int .i64 0, .string ⟨#[]⟩] rfl rfl 37 _ hA4.out (by kernel_rfl) rfl (raw_cells_one ..) ?_))
          | fail)
        refine ret_vget_at (m := 0) rfl (setRow_heap _ _ _ _ _ (0, 0) hA4.out) rfl rfl hv4.out (setRow_below _ hbb4.out (Nat.le_refl _))
    · have hv2 := hv.out
      rw [if_neg he] at hv2
      have hv4 := Go.Lib.hid hv2.symm
      have heb : (e == 0) = false := by simp [he]
      clear hv2 hv he hsm f1 f2
      generalize str s1 = q at *
      generalize he1 : e = e1 at *
      clear he1
      go_enter Try.func99, Try.ntmps99
      go_wp2_with fail
      refine (C1.out _ hR1.out).mono ?_
      rintro e w1 ⟨rfl, rfl⟩
      go_wp2_with (first
        | (with_reducible show wpList _ _ _ (⟨some 26, _, _, _, _, _⟩ :: _) _ _; go_loud (refine wpList_slice_l rfl (.tmp 24) (.tmp 25) 33 rfl 5 Try.underlying33 info8 (.slice a l.length cap) l .i64 _ p rfl rfl rfl hR1.out f3 ?_); intro v3 hv3)
        | fail)
      refine (C2.out _ _ hv3).mono ?_
      rintro e w2 ⟨rfl, hb2⟩
      have hlt0 := (Array.getElem?_eq_some_iff.1 (heap_alloc_new w (.cells #[.int .i64 0, .int .i64 0, .string ⟨#[]⟩] 37))).1
      have hA := (hb2.block _ hlt0).trans (heap_alloc_new w _)
      have hbb2 := (below_one w (.cells #[.int .i64 0, .int .i64 0, .string ⟨#[]⟩] 37)).trans (hb2.mono (below_one w _).size)
      clear hb2 hlt0 hv3 hR1 C1 C2
      have hltA := (Array.getElem?_eq_some_iff.1 hA).1
      have hA4 := Go.Lib.hid ((_root_.Go.heap_alloc_old w2 (.cells #[.int .i64 k1, .int .i64 n1, .string q] 37) hltA).trans hA)
      have hbb4 := Go.Lib.hid (hbb2.trans ((below_one w2 (.cells #[.int .i64 k1, .int .i64 n1, .string q] 37)).mono hbb2.size))
      clear hA hbb2 hltA
      go_wp2_with (first
        | (with_reducible show wpList _ _ _ (⟨none, Op.store 37 (.tmp 2) (.tmp 33), _, _, _, _⟩ :: _) _ _; go_loud (refine wpList_store_row rfl 37 (.tmp 2) (.tmp 33) rfl w.heap.size #[.int .i64 0, .int .i64 0, .string ⟨#[]⟩] rfl rfl 37 _ hA4.out (by kernel_rfl) rfl (raw_cells_one ..) ?_))
        | fail)
      refine ret_vget_at (m := 0) rfl (setRow_heap _ _ _ _ _ (0, 0) hA4.out) rfl rfl hv4.out (setRow_below _ hbb4.out (Nat.le_refl _))
  · have hv := Go.Lib.hid (valB_err l k er p Hr.out he).symm
    have heb : (er == 0) = false := by simp [he]
    clear f4 f5 f6 he
    go_enter Try.func99, Try.ntmps99
    go_wp2_with fail
    refine (C1.out _ hR1.out).mono ?_
    rintro e w1 ⟨rfl, rfl⟩
    go_wp2_with fail
    refine ret_vget_at (m := 0) rfl (heap_alloc_new ..) rfl rfl hv.out (below_one ..)

end Go.Proofs.Ytibbligidncocaa
