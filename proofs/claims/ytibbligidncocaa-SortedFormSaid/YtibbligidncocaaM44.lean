/-
  Stage 22: the law's right: a store tells just some pairs.
  'copy(s[i+1:], s[i:])' of things of any layout, s the call's own.
-/
import Derived.Test.YtibbligidncocaaM40
import Derived.Test.YtibbligidncocaaM42
import Derived.Test.YtibbligidncocaaM43
import Derived.Test.YtibbligidncocaaM41
import Derived.Test.YtibbligidncocaaM33
import Derived.Test.YtibbligidncocaaM15
import Derived.Laws.CopyOwn
namespace Go.Proofs.Ytibbligidncocaa
open Go.RowKit

def VRa (P : List RecT) (B : List UInt8) (p n : Nat) (a1 : Option Addr) (c1 : Nat) : Nat → World → Value → Prop
  | 14, _, v => v = .pointer (some ⟨p, 0, none⟩)
  | 15, _, v => v = .int .i64 (n : Int)
  | 16, _, v => v = .slice a1 n c1
  | 17, _, v => v = .int .i64 (n : Int)
  | 18, _, v => v = .bool false
  | 19, _, v => v = .bool false
  | 20, _, v => v = .pointer (some ⟨p, 0, none⟩)
  | 21, w, v => K4.R w v P
  | 22, _, v => v = .slice a1 n c1
  | 23, _, v => v = .bool true
  | 24, _, v => v = .bool false
  | 25, _, v => v = .bool false
  | 26, _, v => v = .bool false
  | 27, _, v => v = .pointer (some ⟨p, 0, none⟩)
  | 28, w, v => RB w v B
  | 29, _, v => v = .string (str B)
  | 30, _, v => v = .slice a1 n c1
  | 31, w, v => RB w v B
  | 32, _, v => v = .string (str B)
  | 33, _, v => v = .bool false
  | 34, _, v => v = .bool false
  | _, _, _ => True

theorem VRa_below (P : List RecT) (B : List UInt8) (p n : Nat) (a1 : Option Addr) (c1 : Nat) : ∀ (i : Nat) (w w' : World) (v : Value), VRa P B p n a1 c1 i w v → Below w.heap.size w w' → VRa P B p n a1 c1 i w' v := by
  intro i w w' v h hb
  unfold VRa at h ⊢
  split at h <;> first | exact h | trivial | exact RB.below h hb | exact Lay.R.below h hb | exact Own.below h hb | exact OwnV.below h hb | exact OwnRec.below h hb | exact Lay.R.below h hb

def VRb (n c1 b q k : Nat) (ax nx : Int) (sx : ByteArray) : Nat → World → Value → Prop
  | 51, _, v => v = .bool true
  | 52, _, v => v = .bool false
  | 53, _, v => v = .bool false
  | 54, _, v => v = .agg #[.int .i64 ax, .int .i64 nx, .string sx]
  | 55, _, v => v = .slice (some ⟨b, q, none⟩) n c1
  | 56, _, v => v = .int .i64 (k : Int)
  | 57, _, v => v = .pointer (some ⟨b, q + k * 4, none⟩)
  | 58, _, v => v = .pointer (some ⟨b, q + k * 4 + 1, none⟩)
  | 59, _, v => v = .agg #[.int .i64 ax, .int .i64 nx, .string sx]
  | 60, _, v => v = .bool true
  | 61, _, v => v = .bool false
  | 62, _, v => v = .bool false
  | _, _, _ => True

theorem VRb_below (n c1 b q k : Nat) (ax nx : Int) (sx : ByteArray) : ∀ (i : Nat) (w w' : World) (v : Value), VRb n c1 b q k ax nx sx i w v → Below w.heap.size w w' → VRb n c1 b q k ax nx sx i w' v := by
  intro i w w' v h hb
  unfold VRb at h ⊢
  split at h <;> first | exact h | trivial | exact h

theorem outV_form (o : Option RecT) : ∃ (k n : Int) (s : ByteArray) (b : Bool), outV o = .tuple #[.agg #[.int .i64 k, .int .i64 n, .string s], .bool b] := by
  cases o with
  | none => exact ⟨_, _, _, _, rfl⟩
  | some x => exact ⟨_, _, _, _, rfl⟩
theorem mayP_small {P : List RecT} (h : mayP P = true) : SmallV P := fun x hx => by have := mayP_sizes h x hx; omega
theorem mayP_smallK {P : List RecT} (h : mayP P = true) : SmallK P := fun x hx => by have := mayP_sizes h x hx; omega
/-- Each key stands once: it is found. -/
theorem mayP_find {P : List RecT} (h : mayP P = true) {x : RecT} (hx : x ∈ P) : findK keyR P x.1.toList = some x := by
  obtain ⟨hs, -, -⟩ := mayP_sort.1 h
  unfold findK
  rw [List.find?_eq_some_iff_getElem]
  obtain ⟨i, hi, rfl⟩ := List.mem_iff_getElem.1 hx
  refine ⟨by simp [keyR], i, hi, rfl, fun j hj => ?_⟩
  have := lessK_ne (List.pairwise_iff_getElem.1 hs j i (by omega) hi hj)
  simp only [Bool.not_eq_true', decide_eq_false_iff_not]
  exact fun e => this (toList_inj e)

set_option maxHeartbeats 8000000 in
set_option maxRecDepth 100000 in
theorem sright_c {w : World} {B0 p : Nat} {P : List RecT} (h : SW w B0 p P) (v : Value) (hv : K4.R w v P) (hok : ∀ x ∈ P, RecOk x) (ask : ByteArray) (hask : ask.size ≤ 1000000) :
    Calls Try.prog 14 #[.pointer (some ⟨p, 0, none⟩), v, .string ask] w fun e w' => e = .returned (.bool true) ∧ Below w.heap.size w w' := by
  have hL := mayP_len h.may
  obtain ⟨a1, c1, rfl, -⟩ := hv.form
  have CLN := Go.Lib.hid (show ∀ W, Below w.heap.size w W → Calls Try.prog 24 #[.pointer (some ⟨p, 0, none⟩)] W fun e w' => e = .returned (.int .i64 (P.length : Int)) ∧ Below W.heap.size W w' from fun W hb => (slen_c (h.below hb)).mono fun e w' hh => ⟨hh.1, by rw [← hh.2]; exact Below.refl _ _⟩)
  have CLS := Go.Lib.hid fun W (hb : Below w.heap.size w W) => slist_c (h.below hb)
  have CBY := Go.Lib.hid fun W (hb : Below w.heap.size w W) => sbytes_c (h.below hb) hok
  have HR := Go.Lib.hid fun W (hb : Below w.heap.size w W) => hv.below hb
  have hpe : pairE P = rowB (P.map plainR) := by unfold pairE; rw [if_pos h.may]
  have CPB := Go.Lib.hid fun W (hb : Below w.heap.size w W) => by
    have := rpairbytes_c _ P W (hv.below hb) (mayP_small h.may) hok (by omega)
    rw [hpe] at this
    exact this
  have CG := Go.Lib.hid fun W k (hb : Below w.heap.size w W) hk => sget_c (h.below hb) k hk
  have CRD := Go.Lib.hid fun W k (hb : Below w.heap.size w W) hk => sreads_c (h.below hb) k hk
  have CRR := Go.Lib.hid fun W k (hb : Below w.heap.size w W) hk => rsreads_c _ P k (sreadsK P (hashS k)) W (hv.below hb) (mayP_smallK h.may) hk (by omega) rfl
  have CV := Go.Lib.hid fun W k (hb : Below w.heap.size w W) => rval_c _ P k W (hv.below hb)
  have HSZ := Go.Lib.hid (mayP_sizes h.may)
  have HFD := Go.Lib.hid (fun x (hx : x ∈ P) => mayP_find h.may hx)
  have HASK := Go.Lib.hid hask
  clear h hv hok hask hpe
  generalize rowB (P.map plainR) = B at *
  obtain ⟨n, hn⟩ : ∃ n, n = P.length := ⟨_, rfl⟩
  have HN := Go.Lib.hid hn
  rw [← hn] at hL CLN HR CPB CRR CV ⊢
  clear hn
  go_enter Try.func14, Try.ntmps14
  go_upto_region 1 with (fail)
  have hss : ((str B).toList == (str B).toList) = true := by simp
  refine wp_region_each (by kernel_rfl) (VRa P B p n a1 c1) (VRa_below P B p n a1 c1) (by decide +kernel) (by decide +kernel) (by rfl) [14, 15, 16, 17, 18, 19, 20, 21, 22, 23, 24, 25, 26, 27, 28, 29, 30, 31, 32, 33, 34] (by rfl) ?_ ?_
  · intro i o ho a w6 hb6 hlen hg
    match i, ho with
    | 0, ho =>
      obtain rfl := Option.some.inj ho
      have h0 := given_old hg 0 (by decide +kernel)
      clear hg
      exact st_yield ho (wanted_none rfl) (.pointer (some ⟨p, 0, none⟩)) w6 (by simp [execOp, Act.eval, h0, go_sem]) ⟨_, rfl, Below.refl _ _, by rintro t' ⟨⟩; rfl⟩
    | 1, ho =>
      obtain rfl := Option.some.inj ho
      obtain ⟨_, h14, rfl⟩ := given_fed hg 14 (by decide +kernel)
      clear hg
      exact st_enter (w1 := w6) ho (wanted_none rfl) 24 #[.pointer (some ⟨p, 0, none⟩)] (by simp [execOp, Act.eval, h14, resolve, go_sem]) ((CLN.out w6 hb6).mono (by rintro e w7 ⟨rfl, hb7⟩; exact ⟨_, rfl, _, rfl, hb7, by rintro t' ⟨⟩; rfl⟩))
    | 2, ho =>
      obtain rfl := Option.some.inj ho
      have h1 := given_old hg 1 (by decide +kernel)
      clear hg
      exact st_yield ho (wanted_none rfl) (.slice a1 n c1) w6 (by simp [execOp, Act.eval, h1, go_sem]) ⟨_, rfl, Below.refl _ _, by rintro t' ⟨⟩; rfl⟩
    | 3, ho =>
      obtain rfl := Option.some.inj ho
      obtain ⟨_, h16, rfl⟩ := given_fed hg 16 (by decide +kernel)
      clear hg
      exact st_yield ho (wanted_none rfl) (.int .i64 (n : Int)) w6 (by simp [execOp, Act.eval, h16, go_sem, resolve]) ⟨_, rfl, Below.refl _ _, by rintro t' ⟨⟩; rfl⟩
    | 4, ho =>
      obtain rfl := Option.some.inj ho
      obtain ⟨_, h15, rfl⟩ := given_fed hg 15 (by decide +kernel)
      obtain ⟨_, h17, rfl⟩ := given_fed hg 17 (by decide +kernel)
      clear hg
      exact st_yield ho (wanted_none rfl) (.bool false) w6 (by simp [execOp, Act.eval, h15, h17, go_sem]) ⟨_, rfl, Below.refl _ _, by rintro t' ⟨⟩; rfl⟩
    | 5, ho =>
      obtain rfl := Option.some.inj ho
      obtain ⟨_, h18, rfl⟩ := given_fed hg 18 (by decide +kernel)
      clear hg
      exact st_yield ho (wanted_none rfl) (.bool false) w6 (by simp [execOp, Act.eval, h18, go_sem]) ⟨_, rfl, Below.refl _ _, by rintro t' ⟨⟩; rfl⟩
    | 6, ho =>
      obtain rfl := Option.some.inj ho
      have h0 := given_old hg 0 (by decide +kernel)
      obtain ⟨_, h19, rfl⟩ := given_fed hg 19 (by decide +kernel)
      clear hg
      exact st_yield ho (wanted_some rfl rfl h19 rfl) (.pointer (some ⟨p, 0, none⟩)) w6 (by simp [execOp, Act.eval, h0, go_sem]) ⟨_, rfl, Below.refl _ _, by rintro t' ⟨⟩; rfl⟩
    | 7, ho =>
      obtain rfl := Option.some.inj ho
      obtain ⟨_, h20, rfl⟩ := given_fed hg 20 (by decide +kernel)
      obtain ⟨_, h19, rfl⟩ := given_fed hg 19 (by decide +kernel)
      clear hg
      exact st_enter (w1 := w6) ho (wanted_some rfl rfl h19 rfl) 27 #[.pointer (some ⟨p, 0, none⟩)] (by simp [execOp, Act.eval, h20, resolve, go_sem]) ((CLS.out w6 hb6).mono (by rintro e w7 ⟨v, rfl, hown, hb7⟩; exact ⟨v, rfl, _, rfl, hb7, by rintro t' ⟨⟩; exact hown.r⟩))
    | 8, ho =>
      obtain rfl := Option.some.inj ho
      have h1 := given_old hg 1 (by decide +kernel)
      obtain ⟨_, h19, rfl⟩ := given_fed hg 19 (by decide +kernel)
      clear hg
      exact st_yield ho (wanted_some rfl rfl h19 rfl) (.slice a1 n c1) w6 (by simp [execOp, Act.eval, h1, go_sem]) ⟨_, rfl, Below.refl _ _, by rintro t' ⟨⟩; rfl⟩
    | 9, ho =>
      obtain rfl := Option.some.inj ho
      obtain ⟨v21, h21, p21⟩ := given_fed hg 21 (by decide +kernel)
      obtain ⟨_, h22, rfl⟩ := given_fed hg 22 (by decide +kernel)
      obtain ⟨_, h19, rfl⟩ := given_fed hg 19 (by decide +kernel)
      clear hg
      have ce := reqpairs_c v21 (.slice a1 n c1) P P true w6 p21 (HR.out w6 hb6) (by simp)
      exact st_enter (w1 := w6) ho (wanted_some rfl rfl h19 rfl) 37 #[v21, .slice a1 n c1] (by simp [execOp, Act.eval, h21, h22, resolve, go_sem]) (ce.mono (by rintro e w7 ⟨rfl, hb7⟩; exact ⟨_, rfl, _, rfl, hb7, by rintro t' ⟨⟩; rfl⟩))
    | 10, ho =>
      obtain rfl := Option.some.inj ho
      obtain ⟨_, h23, rfl⟩ := given_fed hg 23 (by decide +kernel)
      obtain ⟨_, h19, rfl⟩ := given_fed hg 19 (by decide +kernel)
      clear hg
      exact st_yield ho (wanted_some rfl rfl h19 rfl) (.bool false) w6 (by simp [execOp, Act.eval, h23, go_sem]) ⟨_, rfl, Below.refl _ _, by rintro t' ⟨⟩; rfl⟩
    | 11, ho =>
      obtain rfl := Option.some.inj ho
      obtain ⟨_, h19, rfl⟩ := given_fed hg 19 (by decide +kernel)
      obtain ⟨_, h24, rfl⟩ := given_fed hg 24 (by decide +kernel)
      clear hg
      exact st_yield ho (wanted_none rfl) (.bool false) w6 (by simp [execOp, Act.eval, h19, h24, go_sem]) ⟨_, rfl, Below.refl _ _, by rintro t' ⟨⟩; rfl⟩
    | 12, ho =>
      obtain rfl := Option.some.inj ho
      obtain ⟨_, h25, rfl⟩ := given_fed hg 25 (by decide +kernel)
      clear hg
      exact st_yield ho (wanted_none rfl) (.bool false) w6 (by simp [execOp, Act.eval, h25, go_sem]) ⟨_, rfl, Below.refl _ _, by rintro t' ⟨⟩; rfl⟩
    | 13, ho =>
      obtain rfl := Option.some.inj ho
      have h0 := given_old hg 0 (by decide +kernel)
      obtain ⟨_, h26, rfl⟩ := given_fed hg 26 (by decide +kernel)
      clear hg
      exact st_yield ho (wanted_some rfl rfl h26 rfl) (.pointer (some ⟨p, 0, none⟩)) w6 (by simp [execOp, Act.eval, h0, go_sem]) ⟨_, rfl, Below.refl _ _, by rintro t' ⟨⟩; rfl⟩
    | 14, ho =>
      obtain rfl := Option.some.inj ho
      obtain ⟨_, h27, rfl⟩ := given_fed hg 27 (by decide +kernel)
      obtain ⟨_, h26, rfl⟩ := given_fed hg 26 (by decide +kernel)
      clear hg
      exact st_enter (w1 := w6) ho (wanted_some rfl rfl h26 rfl) 16 #[.pointer (some ⟨p, 0, none⟩)] (by simp [execOp, Act.eval, h27, resolve, go_sem]) ((CBY.out w6 hb6).mono (by rintro e w7 ⟨v, rfl, hown, hb7⟩; exact ⟨v, rfl, _, rfl, hb7, by rintro t' ⟨⟩; exact hown.rb⟩))
    | 15, ho =>
      obtain rfl := Option.some.inj ho
      obtain ⟨v28, h28, p28⟩ := given_fed hg 28 (by decide +kernel)
      obtain ⟨_, h26, rfl⟩ := given_fed hg 26 (by decide +kernel)
      clear hg
      have cv := run_string_RB w6 33 5 9 Try.underlying33 Try.underlying5 Try.underlying9 v28 B p28
      exact st_yield ho (wanted_some rfl rfl h26 rfl) (.string (str B)) w6 (by simp [execOp, Act.eval, h28, cv, Result.andThen]) ⟨_, rfl, Below.refl _ _, by rintro t' ⟨⟩; rfl⟩
    | 16, ho =>
      obtain rfl := Option.some.inj ho
      have h1 := given_old hg 1 (by decide +kernel)
      obtain ⟨_, h26, rfl⟩ := given_fed hg 26 (by decide +kernel)
      clear hg
      exact st_yield ho (wanted_some rfl rfl h26 rfl) (.slice a1 n c1) w6 (by simp [execOp, Act.eval, h1, go_sem]) ⟨_, rfl, Below.refl _ _, by rintro t' ⟨⟩; rfl⟩
    | 17, ho =>
      obtain rfl := Option.some.inj ho
      obtain ⟨_, h30, rfl⟩ := given_fed hg 30 (by decide +kernel)
      obtain ⟨_, h26, rfl⟩ := given_fed hg 26 (by decide +kernel)
      clear hg
      exact st_enter (w1 := w6) ho (wanted_some rfl rfl h26 rfl) 23 #[.slice a1 n c1] (by simp [execOp, Act.eval, h30, resolve, go_sem]) ((CPB.out w6 hb6).mono (by rintro e w7 ⟨v, rfl, hown, hb7⟩; exact ⟨v, rfl, _, rfl, hb7, by rintro t' ⟨⟩; exact hown.rb⟩))
    | 18, ho =>
      obtain rfl := Option.some.inj ho
      obtain ⟨v31, h31, p31⟩ := given_fed hg 31 (by decide +kernel)
      obtain ⟨_, h26, rfl⟩ := given_fed hg 26 (by decide +kernel)
      clear hg
      have cv := run_string_RB w6 33 5 9 Try.underlying33 Try.underlying5 Try.underlying9 v31 B p31
      exact st_yield ho (wanted_some rfl rfl h26 rfl) (.string (str B)) w6 (by simp [execOp, Act.eval, h31, cv, Result.andThen]) ⟨_, rfl, Below.refl _ _, by rintro t' ⟨⟩; rfl⟩
    | 19, ho =>
      obtain rfl := Option.some.inj ho
      obtain ⟨_, h29, rfl⟩ := given_fed hg 29 (by decide +kernel)
      obtain ⟨_, h32, rfl⟩ := given_fed hg 32 (by decide +kernel)
      obtain ⟨_, h26, rfl⟩ := given_fed hg 26 (by decide +kernel)
      clear hg
      exact st_yield ho (wanted_some rfl rfl h26 rfl) (.bool false) w6 (by simp [execOp, Act.eval, h29, h32, go_sem]) ⟨_, rfl, Below.refl _ _, by rintro t' ⟨⟩; rfl⟩
    | 20, ho =>
      obtain rfl := Option.some.inj ho
      obtain ⟨_, h26, rfl⟩ := given_fed hg 26 (by decide +kernel)
      obtain ⟨_, h33, rfl⟩ := given_fed hg 33 (by decide +kernel)
      clear hg
      exact st_yield ho (wanted_none rfl) (.bool false) w6 (by simp [execOp, Act.eval, h26, h33, go_sem]) ⟨_, rfl, Below.refl _ _, by rintro t' ⟨⟩; rfl⟩
    | n + 21, ho => simp at ho
  · intro f w20 hb20 hvv
    have h34 := hvv 34 (by decide)
    simp only [VRa] at h34
    have HB := Go.Lib.hid hb20
    clear hvv hb20 hss CLN CLS CBY CPB
    unfold putAll
    simp only [List.foldl]
    simp only [h34]
    go_simp
    go_wp2_with fail
    go_loopw [7] (fun iv wr => ∃ k : Nat, k ≤ n ∧ iv = .int .i64 (k : Int) ∧ Hid (Below w.heap.size w wr)) (fun iv _ => n - (intOf iv).toNat)
    case atStart => exact ⟨0, by omega, rfl, HB⟩
    case round =>
      clear HB
      obtain ⟨k, hi, rfl, HB⟩ := hrel
      by_cases hlt : k < n
      · have hlt2 : k < P.length := by rw [← HN.out]; exact hlt
        obtain ⟨b, q, rfl, -, -, c0, c1', c2, c3⟩ := K4.at' (HR.out _ HB.out) k hlt2
        have hix := idx4 b q n c1 k hlt
        have hsz := HSZ.out _ (List.getElem_mem hlt2)
        have HFX := Go.Lib.hid (HFD.out _ (List.getElem_mem hlt2))
        generalize P[k] = x at *
        obtain ⟨kx, gx, ax, nx, sx⟩ := x
        simp only [] at c0 c1' c2 c3 hsz HFX
        have CGX := CG.out wr kx HB.out (by omega)
        rw [HFX.out] at CGX
        unfold outV at CGX
        simp only [] at CGX
        have CGX := Go.Lib.hid CGX
        have CE := fun W => eqval_c ax nx sx ax nx sx W
        rw [eqR_refl] at CE
        unfold rawV at CE
        have CE := Go.Lib.hid CE
        clear hsz HFX hlt2
        go_wp2_with fail
        refine CGX.out.mono ?_
        rintro e w5 ⟨rfl, hc⟩
        have hbA := below_one w5 (.cells #[.int .i64 ax, .int .i64 nx, .string sx] 37)
        have HX9 := Go.Lib.hid (heap_alloc_new w5 (.cells #[.int .i64 ax, .int .i64 nx, .string sx] 37))
        have hcA := hc.trans (hbA.mono hc.size)
        have HB9 := Go.Lib.hid (HB.out.trans (hcA.mono HB.out.size))
        have HC := Go.Lib.hid (fun (W : World) (hb : Below (w5.alloc (.cells #[.int .i64 ax, .int .i64 nx, .string sx] 37)).heap.size (w5.alloc (.cells #[.int .i64 ax, .int .i64 nx, .string sx] 37)) W) => by
          have hh := hcA.trans (hb.mono hcA.size)
          exact And.intro (cell_kept c0 hh) (And.intro (cell_kept c1' hh) (And.intro (cell_kept c2 hh) (cell_kept c3 hh))))
        clear hc hbA hcA CGX HB c0 c1' c2 c3
        go_upto_region 7 with (fail)
        obtain ⟨g9, hg9⟩ : ∃ g, g = w5.heap.size := ⟨_, rfl⟩
        rw [← hg9] at HX9 ⊢
        clear hg9
        generalize w5.alloc (.cells #[.int .i64 ax, .int .i64 nx, .string sx] 37) = w9 at *
        refine wp_region_each (by kernel_rfl) (VRb n c1 b q k ax nx sx) (VRb_below n c1 b q k ax nx sx) (by decide +kernel) (by decide +kernel) (by rfl) [51, 52, 53, 54, 55, 56, 57, 58, 59, 60, 61, 62] (by rfl) ?_ ?_
        · intro i o ho a w6 hb6 hlen hg
          obtain ⟨y0, y1, y2⟩ := raw3 (row_kept HX9.out hb6)
          obtain ⟨z0, z1, z2, z3⟩ := HC.out w6 hb6
          match i, ho with
          | 0, ho =>
            obtain rfl := Option.some.inj ho
            have h9 := given_old hg 9 (by decide +kernel)
            clear hg
            exact st_yield ho (wanted_none rfl) (.bool true) w6 (by simp [execOp, Act.eval, h9, go_sem]) ⟨_, rfl, Below.refl _ _, by rintro t' ⟨⟩; rfl⟩
          | 1, ho =>
            obtain rfl := Option.some.inj ho
            obtain ⟨_, h51, rfl⟩ := given_fed hg 51 (by decide +kernel)
            clear hg
            exact st_yield ho (wanted_none rfl) (.bool false) w6 (by simp [execOp, Act.eval, h51, go_sem]) ⟨_, rfl, Below.refl _ _, by rintro t' ⟨⟩; rfl⟩
          | 2, ho =>
            obtain rfl := Option.some.inj ho
            obtain ⟨_, h52, rfl⟩ := given_fed hg 52 (by decide +kernel)
            clear hg
            exact st_yield ho (wanted_none rfl) (.bool false) w6 (by simp [execOp, Act.eval, h52, go_sem]) ⟨_, rfl, Below.refl _ _, by rintro t' ⟨⟩; rfl⟩
          | 3, ho =>
            obtain rfl := Option.some.inj ho
            have h8 := given_old hg 8 (by decide +kernel)
            obtain ⟨_, h53, rfl⟩ := given_fed hg 53 (by decide +kernel)
            clear hg
            exact st_yield ho (wanted_some rfl rfl h53 rfl) (.agg #[.int .i64 ax, .int .i64 nx, .string sx]) w6 (by simp [execOp, Act.eval, h8, go_sem, y0, y1, y2]) ⟨_, rfl, Below.refl _ _, by rintro t' ⟨⟩; rfl⟩
          | 4, ho =>
            obtain rfl := Option.some.inj ho
            have h1 := given_old hg 1 (by decide +kernel)
            obtain ⟨_, h53, rfl⟩ := given_fed hg 53 (by decide +kernel)
            clear hg
            exact st_yield ho (wanted_some rfl rfl h53 rfl) (.slice (some ⟨b, q, none⟩) n c1) w6 (by simp [execOp, Act.eval, h1, go_sem]) ⟨_, rfl, Below.refl _ _, by rintro t' ⟨⟩; rfl⟩
          | 5, ho =>
            obtain rfl := Option.some.inj ho
            have h7 := given_old hg 7 (by decide +kernel)
            obtain ⟨_, h53, rfl⟩ := given_fed hg 53 (by decide +kernel)
            clear hg
            exact st_yield ho (wanted_some rfl rfl h53 rfl) (.int .i64 (k : Int)) w6 (by simp [execOp, Act.eval, h7, go_sem]) ⟨_, rfl, Below.refl _ _, by rintro t' ⟨⟩; rfl⟩
          | 6, ho =>
            obtain rfl := Option.some.inj ho
            obtain ⟨_, h55, rfl⟩ := given_fed hg 55 (by decide +kernel)
            obtain ⟨_, h56, rfl⟩ := given_fed hg 56 (by decide +kernel)
            obtain ⟨_, h53, rfl⟩ := given_fed hg 53 (by decide +kernel)
            clear hg
            exact st_yield ho (wanted_some rfl rfl h53 rfl) (.pointer (some ⟨b, q + k * 4, none⟩)) w6 (by simp [execOp, Act.eval, h55, h56, go_sem, hix]) ⟨_, rfl, Below.refl _ _, by rintro t' ⟨⟩; rfl⟩
          | 7, ho =>
            obtain rfl := Option.some.inj ho
            obtain ⟨_, h57, rfl⟩ := given_fed hg 57 (by decide +kernel)
            obtain ⟨_, h53, rfl⟩ := given_fed hg 53 (by decide +kernel)
            clear hg
            exact st_yield ho (wanted_some rfl rfl h53 rfl) (.pointer (some ⟨b, q + k * 4 + 1, none⟩)) w6 (by simp [execOp, Act.eval, h57, go_sem]) ⟨_, rfl, Below.refl _ _, by rintro t' ⟨⟩; rfl⟩
          | 8, ho =>
            obtain rfl := Option.some.inj ho
            obtain ⟨_, h58, rfl⟩ := given_fed hg 58 (by decide +kernel)
            obtain ⟨_, h53, rfl⟩ := given_fed hg 53 (by decide +kernel)
            clear hg
            exact st_yield ho (wanted_some rfl rfl h53 rfl) (.agg #[.int .i64 ax, .int .i64 nx, .string sx]) w6 (by simp [execOp, Act.eval, h58, go_sem, z1, z2, z3]) ⟨_, rfl, Below.refl _ _, by rintro t' ⟨⟩; rfl⟩
          | 9, ho =>
            obtain rfl := Option.some.inj ho
            obtain ⟨_, h54, rfl⟩ := given_fed hg 54 (by decide +kernel)
            obtain ⟨_, h59, rfl⟩ := given_fed hg 59 (by decide +kernel)
            obtain ⟨_, h53, rfl⟩ := given_fed hg 53 (by decide +kernel)
            clear hg
            exact st_enter (w1 := w6) ho (wanted_some rfl rfl h53 rfl) 38 #[.agg #[.int .i64 ax, .int .i64 nx, .string sx], .agg #[.int .i64 ax, .int .i64 nx, .string sx]] (by simp [execOp, Act.eval, h54, h59, resolve, go_sem]) ((CE.out w6).mono (by rintro e w7 ⟨rfl, hb7⟩; exact ⟨_, rfl, _, rfl, hb7, by rintro t' ⟨⟩; rfl⟩))
          | 10, ho =>
            obtain rfl := Option.some.inj ho
            obtain ⟨_, h60, rfl⟩ := given_fed hg 60 (by decide +kernel)
            obtain ⟨_, h53, rfl⟩ := given_fed hg 53 (by decide +kernel)
            clear hg
            exact st_yield ho (wanted_some rfl rfl h53 rfl) (.bool false) w6 (by simp [execOp, Act.eval, h60, go_sem]) ⟨_, rfl, Below.refl _ _, by rintro t' ⟨⟩; rfl⟩
          | 11, ho =>
            obtain rfl := Option.some.inj ho
            obtain ⟨_, h53, rfl⟩ := given_fed hg 53 (by decide +kernel)
            obtain ⟨_, h61, rfl⟩ := given_fed hg 61 (by decide +kernel)
            clear hg
            exact st_yield ho (wanted_none rfl) (.bool false) w6 (by simp [execOp, Act.eval, h53, h61, go_sem]) ⟨_, rfl, Below.refl _ _, by rintro t' ⟨⟩; rfl⟩
          | n + 12, ho => simp at ho
        · intro f w8 hb8 hvv
          have h62 := hvv 62 (by decide)
          simp only [VRb] at h62
          have HB8 := Go.Lib.hid (HB9.out.trans (hb8.mono HB9.out.size))
          clear hvv hb8 HX9 HC HB9 CE hix
          unfold putAll
          simp only [List.foldl]
          simp only [h62]
          clear h62
          go_simp
          go_wp2_with fail
          go_roundw
          case rel => exact ⟨k + 1, by omega, by go_num, HB8⟩
          case measure => simp only [intOf]; omega
      · obtain rfl : k = n := by omega
        have CGX := CG.out wr ask HB.out HASK.out
        have CVX := fun W (hb : Below w.heap.size w W) => CV.out W ask hb
        obtain ⟨ax, nx, sx, bq, hov⟩ := outV_form (findK keyR P ask.toList)
        rw [hov] at CGX CVX
        have CGX := Go.Lib.hid CGX
        have CVX := Go.Lib.hid CVX
        have CE := fun W => eqval_c ax nx sx ax nx sx W
        rw [eqR_refl] at CE
        unfold rawV at CE
        have CE := Go.Lib.hid CE
        have CRD := Go.Lib.hid fun W hb => CRD.out W ask hb HASK.out
        have CRR := Go.Lib.hid fun W hb => CRR.out W ask hb HASK.out
        generalize sreadsK P (hashS ask) = m at *
        clear hov
        go_wp2_with fail
        refine CGX.out.mono ?_
        rintro e w5 ⟨rfl, hc⟩
        have hbA := below_one w5 (.cells #[.int .i64 ax, .int .i64 nx, .string sx] 37)
        have HXA := Go.Lib.hid (heap_alloc_new w5 (.cells #[.int .i64 ax, .int .i64 nx, .string sx] 37))
        have hcA := hc.trans (hbA.mono hc.size)
        have HBA := Go.Lib.hid (HB.out.trans (hcA.mono HB.out.size))
        have CVX := Go.Lib.hid (CVX.out _ HBA.out)
        clear hc hbA hcA CGX HB
        go_wp2_with fail
        refine CVX.out.mono ?_
        rintro e w6 ⟨rfl, hc⟩
        have hbB := below_one w6 (.cells #[.int .i64 ax, .int .i64 nx, .string sx] 37)
        have HXB := Go.Lib.hid (heap_alloc_new w6 (.cells #[.int .i64 ax, .int .i64 nx, .string sx] 37))
        have hcB := hc.trans (hbB.mono hc.size)
        have HXA := Go.Lib.hid (row_kept HXA.out hcB)
        have HBB := Go.Lib.hid (HBA.out.trans (hcB.mono HBA.out.size))
        obtain ⟨y0, y1, y2⟩ := raw3 HXA.out
        obtain ⟨z0, z1, z2⟩ := raw3 HXB.out
        clear hc hbB hcB CVX HBA
        go_upto_region 11 with (fail)
        have hbq : (bq == bq) = true := by simp
        go_wp2_with fail
        refine (CE.out _).mono ?_
        rintro e w7 ⟨rfl, hc⟩
        have HB7 := Go.Lib.hid (HBB.out.trans (hc.mono HBB.out.size))
        have CRD := Go.Lib.hid (CRD.out _ HB7.out)
        clear hc HBB HXA HXB y0 y1 y2 z0 z1 z2 CE
        go_wp2_with fail
        refine CRD.out.mono ?_
        rintro e w8 ⟨rfl, hc⟩
        have HB8 := Go.Lib.hid (HB7.out.trans (hc.mono HB7.out.size))
        have CRR := Go.Lib.hid (CRR.out _ HB8.out)
        clear hc HB7 CRD
        go_wp2_with fail
        refine CRR.out.mono ?_
        rintro e w9 ⟨rfl, hc⟩
        have HF := Go.Lib.hid (HB8.out.trans (hc.mono HB8.out.size))
        clear hc HB8 CRR
        go_wp2_with fail
        go_ret
        exact ⟨rfl, HF.out⟩
end Go.Proofs.Ytibbligidncocaa

namespace Go.Proofs.Ytibbligidncocaa
open Go.RowKit

section
variable {P : Program}
theorem run_copy_rowN (w : World) (dT sT ty elem : TypeId) (size g o dLen dCap : Nat) (a : Addr) (sLen sCap : Nat) (cur : Array Value) (t : TypeId) (cs : List Value) (n : Nat)
    (hu : P.underlying dT = some (.slice elem)) (hs : (P.info? elem).map (·.size) = some size)
    (hg : w.heap[g]? = some (.cells cur t (0, 0))) (hn : n = Nat.min sLen dLen) (hc : cs.length = n * size)
    (hsrc : ∀ j v, cs[j]? = some v → w.cell? (a.add j) = some v) (hfit : o + cs.length ≤ cur.size) (h1 : ∀ v ∈ cs, v.oneCell' = true) :
    (Builtin.copy_ #[dT, sT] ty #[.slice (some ⟨g, o, none⟩) dLen dCap, .slice (some a) sLen sCap]).run P w =
      .ok (goInt n) (w.setRow g (cur.toList.take o ++ cs ++ cur.toList.drop (o + cs.length)).toArray) := by
  have hl := run_loadCells_list (P := P) w a cs hsrc
  have hst := run_storeCells_at P g o t cs 0 cur w hg (by simpa using hfit) h1
  cases hq : P.info? elem with
  | none => simp [hq] at hs
  | some i =>
    have hi : i.size = size := by simpa [hq] using hs
    subst hn
    simp [Builtin.copy_, run_underlying hu, Builtin.lenOf, Builtin.firstCells, sizeOf, typeInfo, hq, hi, ← hc, hl, hst]
end

namespace Lay
section
variable {α : Type} {K : Lay α} {P : Program}
theorem Ok.copy (hK : K.Ok P) {ops : Array Oper} {rest : List Oper} {o : Oper} {a : Act} {w : World} {Q : Exit → Act → World → Prop} (hgd : o.guard = none) (d s : Operand)
    (ho : o.op = .call { callee := .builtin .copy, args := #[d, s], argTypes := #[K.row, K.row] })
    (B g n cap i : Nat) (l : List α) (hown : K.O w B (.slice (some ⟨g, 0, none⟩) n cap) l) (hi : i + 1 ≤ l.length)
    (S1 S2 : Value) (hd : a.eval d = S1) (hs : a.eval s = S2) (hS1 : S1 = sliced (some ⟨g, 0, none⟩) (i + 1) n cap K.size) (hS2 : S2 = sliced (some ⟨g, 0, none⟩) i n cap K.size) (w0 : World) (hb : Below B w0 w)
    (h : ∀ w', K.O w' B (.slice (some ⟨g, 0, none⟩) n cap) (l.take (i + 1) ++ (l.drop i).take (l.length - (i + 1))) → Below B w0 w' → wpList P ops Q rest (a.put o.dst (goInt ((l.length - (i + 1) : Nat) : Int))) w') : wpList P ops Q (o :: rest) a w := by
  subst hS1 hS2
  obtain rfl := hown.num
  by_cases hlt : i + 1 < l.length
  case neg =>
    have he : i + 1 = l.length := by omega
    rcases hown.2 with ⟨h', -⟩ | ⟨g', cap', cur, hv, hB, hg, d1, d2, d3, d4⟩
    · cases h'
    simp only [Value.slice.injEq, Option.some.injEq, Addr.mk.injEq] at hv
    obtain ⟨⟨rfl, -, -⟩, -, rfl⟩ := hv
    have hsz : (P.info? K.elem).map (·.size) = some K.size := by
      obtain ⟨i', hi', -, hsize, -⟩ := info_parts hK.info
      rw [hi']
      simp [hsize]
    have hadd : ∀ j k : Nat, (⟨g, j, none⟩ : Addr).add k = ⟨g, j + k, none⟩ := fun j k => by unfold Addr.add; split <;> simp_all
    obtain ⟨o1, e1⟩ : ∃ o1, (if cap = i + 1 then some (⟨g, 0, none⟩ : Addr) else Option.map (fun p : Addr => p.add ((i + 1) * K.size)) (some ⟨g, 0, none⟩)) = some ⟨g, o1, none⟩ ∧ o1 ≤ cur.size := by
      by_cases hc : cap = i + 1
      · exact ⟨0, by rw [if_pos hc], by omega⟩
      · refine ⟨(i + 1) * K.size, by rw [if_neg hc, Option.map_some, hadd, Nat.zero_add], ?_⟩
        rw [d3]
        exact Nat.mul_le_mul_right _ (by omega)
    obtain ⟨o2, e2⟩ : ∃ o2, (if cap = i then some (⟨g, 0, none⟩ : Addr) else Option.map (fun p : Addr => p.add (i * K.size)) (some ⟨g, 0, none⟩)) = some ⟨g, o2, none⟩ := by
      by_cases hc : cap = i
      · exact ⟨0, by rw [if_pos hc]⟩
      · exact ⟨i * K.size, by rw [if_neg hc, Option.map_some, hadd, Nat.zero_add]⟩
    unfold sliced at hd hs
    rw [e1.1] at hd
    rw [e2] at hs
    have hrun := run_copy_rowN (P := P) w K.row K.row o.type K.elem K.size g o1 (l.length - (i + 1)) (cap - (i + 1)) ⟨g, o2, none⟩ (l.length - i) (cap - i) cur K.elem [] 0 hK.under hsz hg (by rw [show l.length - (i + 1) = 0 by omega]; exact (Nat.min_zero _).symm) (by simp)
      (fun j v hj => by simp at hj) (by simpa using e1.2) (by intro v hv; cases hv)
    have hself : w.setRow g (cur.toList.take o1 ++ ([] : List Value) ++ cur.toList.drop (o1 + ([] : List Value).length)).toArray = w := by
      rw [List.append_nil, List.length_nil, Nat.add_zero, List.take_append_drop, Array.toArray_toList]
      exact setRow_self w g cur K.elem (0, 0) hg
    rw [hself] at hrun
    have hl : l.take (i + 1) ++ (l.drop i).take (l.length - (i + 1)) = l := by rw [he, Nat.sub_self, List.take_zero, List.append_nil, List.take_length]
    have := h w (by rw [hl]; exact hown) hb
    refine wpList_plain hgd fun K' hK' => ?_
    unfold Oper.wp
    simp [execOp, ho, resolve, invoke, builtin, hd, hs, hrun, Result.andThen]
    refine hK' _ _ ?_
    rw [show l.length - (i + 1) = 0 by omega] at this
    simpa using this
  case pos =>
    have hz := hK.flat_len l
    have hsz : (P.info? K.elem).map (·.size) = some K.size := by
      obtain ⟨i', hi', -, hsize, -⟩ := info_parts hK.info
      rw [hi']
      simp [hsize]
    rcases hown.2 with ⟨h', -⟩ | ⟨g', cap', cur, hv, hB, hg, d1, d2, d3, d4⟩
    · cases h'
    simp only [Value.slice.injEq, Option.some.injEq, Addr.mk.injEq] at hv
    obtain ⟨⟨rfl, -, -⟩, -, rfl⟩ := hv
    have hadd : ∀ j k : Nat, (⟨g, j, none⟩ : Addr).add k = ⟨g, j + k, none⟩ := fun j k => by unfold Addr.add; split <;> simp_all
    obtain ⟨m, hm⟩ : ∃ m, m = l.length - (i + 1) := ⟨_, rfl⟩
    obtain ⟨cs, hcs⟩ : ∃ cs, cs = K.flat ((l.drop i).take m) := ⟨_, rfl⟩
    have hcl : cs.length = m * K.size := by
      rw [hcs, hK.flat_len, List.length_take, List.length_drop, Nat.min_eq_left (by omega)]
    have hin : (i + 1) * K.size + m * K.size = l.length * K.size := by rw [← Nat.add_mul]; congr 1; omega
    have hcap : l.length * K.size ≤ cap * K.size := Nat.mul_le_mul_right _ d1
    have hrow := hown
    have e1 : (if cap = i + 1 then some (⟨g, 0, none⟩ : Addr) else Option.map (fun p : Addr => p.add ((i + 1) * K.size)) (some ⟨g, 0, none⟩)) = some ⟨g, (i + 1) * K.size, none⟩ := by
      rw [if_neg (by omega), Option.map_some, hadd, Nat.zero_add]
    have e2 : (if cap = i then some (⟨g, 0, none⟩ : Addr) else Option.map (fun p : Addr => p.add (i * K.size)) (some ⟨g, 0, none⟩)) = some ⟨g, i * K.size, none⟩ := by
      rw [if_neg (by omega), Option.map_some, hadd, Nat.zero_add]
    unfold sliced at hd hs
    rw [e1] at hd
    rw [e2] at hs
    have hrun := run_copy_rowN (P := P) w K.row K.row o.type K.elem K.size g ((i + 1) * K.size) (l.length - (i + 1)) (cap - (i + 1)) ⟨g, i * K.size, none⟩ (l.length - i) (cap - i) cur K.elem cs m hK.under hsz hg (by rw [hm]; exact (Nat.min_eq_right (by omega)).symm) hcl
      (fun j v hj => by
        have hjl := (List.getElem?_eq_some_iff.1 hj).1
        rw [hcl] at hjl
        rw [hcs, hK.flat_take, hK.flat_drop, List.getElem?_take_of_lt hjl, List.getElem?_drop] at hj
        have := World.ownsRow.cells hrow (g := g) rfl (i * K.size + j) v hj
        rw [hadd, Nat.zero_add] at this
        rw [hadd]
        exact this)
      (by rw [hcl, hin, d3]; exact hcap) (by rw [hcs]; exact hK.flat_one _)
    have hbn : Below B w0 (w.setRow g (cur.toList.take ((i + 1) * K.size) ++ cs ++ cur.toList.drop ((i + 1) * K.size + cs.length)).toArray) := below_setRow hb hB _
    have hh := setRow_heap w g cur (cur.toList.take ((i + 1) * K.size) ++ cs ++ cur.toList.drop ((i + 1) * K.size + cs.length)).toArray K.elem (0, 0) hg
    have hl' : (l.take (i + 1) ++ (l.drop i).take m).length = l.length := by simp only [List.length_append, List.length_take, List.length_drop]; omega
    refine wpList_plain hgd fun K' hK' => ?_
    unfold Oper.wp
    simp [execOp, ho, resolve, invoke, builtin, hd, hs, hrun, Result.andThen]
    refine hK' _ _ ?_
    have := h (w.setRow g (cur.toList.take ((i + 1) * K.size) ++ cs ++ cur.toList.drop ((i + 1) * K.size + cs.length)).toArray) ?_ hbn
    · rw [← hm] at this
      simpa using this
    · rw [← hm]
      refine ⟨by rw [hK.flat_len], .inr ⟨g, cap, _, by rw [hl'], hB, hh, by rw [hl']; exact d1, d2, ?_, ?_⟩⟩
      · rw [List.size_toArray]
        have e : cur.toList.length = cur.size := Array.length_toList
        simp only [List.length_append, List.length_take, List.length_drop, hcl, e]
        omega
      · rw [hl', flat_append, ← hcs, hK.flat_take, ← d4, List.take_take, Nat.min_eq_left (by omega)]
        have e : cur.toList.length = cur.size := Array.length_toList
        have e3 : (cur.toList.take ((i + 1) * K.size) ++ cs).length = l.length * K.size := by simp only [List.length_append, List.length_take, hcl, e]; omega
        rw [List.take_append, e3, Nat.sub_self, List.take_zero, List.append_nil, List.take_of_length_le (by rw [e3]; exact Nat.le_refl _)]
end
end Lay

end Go.Proofs.Ytibbligidncocaa
