/-
  Stage 22: alike, Get, Reads.
  Stage 22: Get, Reads.
-/
import Derived.Test.YtibbligidncocaaM34
import Derived.Test.YtibbligidncocaaM33
import Derived.Test.YtibbligidncocaaM24
import Derived.Test.YtibbligidncocaaM41
import Derived.Test.YtibbligidncocaaM17
import Derived.BigQuiet
import Derived.LoopTactic
namespace Go.Proofs.Ytibbligidncocaa
open Go.RowKit

def VWA (p b ns cs hk r : Nat) (av : Option Addr) (key : ByteArray) (q : Bool) : Nat → World → Value → Prop
  | 11, _, v => v = .pointer (some ⟨p, 0, none⟩)
  | 12, _, v => v = .pointer (some ⟨p, 0, none⟩)
  | 13, _, v => v = .pointer (some ⟨p, 2, none⟩)
  | 14, _, v => v = .pointer (some ⟨b, 0, none⟩)
  | 15, _, v => v = .pointer (some ⟨p, 0, none⟩)
  | 16, _, v => v = .pointer (some ⟨p, 0, none⟩)
  | 17, _, v => v = .pointer (some ⟨p, 1, none⟩)
  | 18, _, v => v = .slice av ns cs
  | 19, _, v => v = .int .i64 (ns : Int)
  | 20, _, v => v = .string key
  | 21, _, v => v = .int .u64 (hk : Int)
  | 22, _, v => v = .tuple #[.int .i64 (r : Int), .bool q]
  | 10, _, v => v = .tuple #[.int .i64 (r : Int), .bool q]
  | 23, _, v => v = .int .i64 (r : Int)
  | 24, _, v => v = .bool q
  | 5, _, v => v = .int .i64 (r : Int)
  | 6, _, v => v = .bool q
  | _, _, _ => True

theorem VWA_below (p b ns cs hk r : Nat) (av : Option Addr) (key : ByteArray) (q : Bool) : ∀ (i : Nat) (w w' : World) (v : Value), VWA p b ns cs hk r av key q i w v → Below w.heap.size w w' → VWA p b ns cs hk r av key q i w' v := by
  intro i w w' v h hb
  unfold VWA at h ⊢
  split at h <;> first | exact h | trivial | exact h

set_option maxHeartbeats 2000000 in
set_option maxRecDepth 100000 in
theorem salike_c {w : World} {B p : Nat} {P : List RecT} (h : SW w B p P) (key : ByteArray) (hks : key.size ≤ 1000000) :
    Calls Try.prog 49 #[.pointer (some ⟨p, 0, none⟩), .string key] w fun e w' => ∃ v, e = .returned v ∧ K4.R w' v (aliG hR P (hashS key)) ∧ Below w.heap.size w w' := by
  obtain ⟨u, us, b, ub, h⟩ := h
  have hL := mayP_len h.may
  have hsl := startsG_length hR P
  have hhl := hashesG_length hR P
  have hgr := group_all hR P (mayP_rise h.may)
  have htl := treeL_len 64 (hashesG hR P) (by omega)
  have CH := Go.Lib.hid fun W => hof_k key (hashS key) rfl W hks
  have CR := Go.Lib.hid fun W (hb : Below w.heap.size w W) => rank_c (startsG hR P).length (hashS key) W B b ub _ (h.tree.below hb) (by omega) (by omega) (rankB (treeL 64 (hashesG hR P)) (hashS key) 64 0 (hashesG hR P).length 0) (by rw [hsl])
  obtain ⟨a, cap, rfl, hm⟩ := h.own.r.form
  obtain ⟨av, cs, rfl, hms⟩ := h.starts.r.form
  have hcap := h.own.r.len.2.1
  have HX := Go.Lib.hid (show ∀ W, Below w.heap.size w W → _ from fun W hb => (h.below hb).cells)
  have HRP := Go.Lib.hid (show ∀ W, Below w.heap.size w W → K4.R W (.slice a P.length cap) P from fun W hb => (h.below hb).own.r)
  have HRS := Go.Lib.hid (show ∀ W, Below w.heap.size w W → KN.R W (.slice av (startsG hR P).length cs) (startsG hR P) from fun W hb => (h.below hb).starts.r)
  obtain ⟨x0, x1, x2⟩ := h.cells
  clear h htl
  unfold aliG
  obtain ⟨hk, hkk⟩ : ∃ k, k = hashS key := ⟨_, rfl⟩
  rw [← hkk] at CH CR ⊢
  cases hrk : rankB (treeL 64 (hashesG hR P)) hk 64 0 (hashesG hR P).length 0 with
  | none =>
    rw [hrk] at CR
    unfold endV at CR
    simp only [] at CR ⊢
    clear hrk hgr hkk HRP HRS hsl
    generalize (startsG hR P).length = ns at *
    go_enter Try.func49, Try.ntmps49
    go_upto_region 3 with (fail)
    clear x0 x1 x2
    refine wp_region_each (by kernel_rfl) (VWA p b ns cs hk 0 av key false) (VWA_below p b ns cs hk 0 av key false) (by decide +kernel) (by decide +kernel) (by rfl) [11, 12, 13, 14, 15, 16, 17, 18, 19, 20, 21, 22, 10, 23, 24, 5, 6] (by rfl) ?_ ?_
    · intro i o ho a w6 hb6 hlen hg
      obtain ⟨x0, x1, x2⟩ := HX.out w6 hb6
      match i, ho with
      | 0, ho =>
        obtain rfl := Option.some.inj ho
        have h0 := given_old hg 0 (by decide +kernel)
        clear hg
        exact st_yield ho (wanted_none rfl) (.pointer (some ⟨p, 0, none⟩)) w6 (by simp [execOp, Act.eval, h0, go_sem]) ⟨_, rfl, Below.refl _ _, by rintro t' ⟨⟩; rfl⟩
      | 1, ho =>
        obtain rfl := Option.some.inj ho
        obtain ⟨_, h11, rfl⟩ := given_fed hg 11 (by decide +kernel)
        clear hg
        exact st_yield ho (wanted_none rfl) (.pointer (some ⟨p, 0, none⟩)) w6 (by simp [execOp, Act.eval, h11, go_sem]) ⟨_, rfl, Below.refl _ _, by rintro t' ⟨⟩; rfl⟩
      | 2, ho =>
        obtain rfl := Option.some.inj ho
        obtain ⟨_, h12, rfl⟩ := given_fed hg 12 (by decide +kernel)
        clear hg
        exact st_yield ho (wanted_none rfl) (.pointer (some ⟨p, 2, none⟩)) w6 (by simp [execOp, Act.eval, h12, go_sem]) ⟨_, rfl, Below.refl _ _, by rintro t' ⟨⟩; rfl⟩
      | 3, ho =>
        obtain rfl := Option.some.inj ho
        obtain ⟨_, h13, rfl⟩ := given_fed hg 13 (by decide +kernel)
        clear hg
        exact st_yield ho (wanted_none rfl) (.pointer (some ⟨b, 0, none⟩)) w6 (by simp [execOp, Act.eval, h13, go_sem, x2]) ⟨_, rfl, Below.refl _ _, by rintro t' ⟨⟩; rfl⟩
      | 4, ho =>
        obtain rfl := Option.some.inj ho
        have h0 := given_old hg 0 (by decide +kernel)
        clear hg
        exact st_yield ho (wanted_none rfl) (.pointer (some ⟨p, 0, none⟩)) w6 (by simp [execOp, Act.eval, h0, go_sem]) ⟨_, rfl, Below.refl _ _, by rintro t' ⟨⟩; rfl⟩
      | 5, ho =>
        obtain rfl := Option.some.inj ho
        obtain ⟨_, h15, rfl⟩ := given_fed hg 15 (by decide +kernel)
        clear hg
        exact st_yield ho (wanted_none rfl) (.pointer (some ⟨p, 0, none⟩)) w6 (by simp [execOp, Act.eval, h15, go_sem]) ⟨_, rfl, Below.refl _ _, by rintro t' ⟨⟩; rfl⟩
      | 6, ho =>
        obtain rfl := Option.some.inj ho
        obtain ⟨_, h16, rfl⟩ := given_fed hg 16 (by decide +kernel)
        clear hg
        exact st_yield ho (wanted_none rfl) (.pointer (some ⟨p, 1, none⟩)) w6 (by simp [execOp, Act.eval, h16, go_sem]) ⟨_, rfl, Below.refl _ _, by rintro t' ⟨⟩; rfl⟩
      | 7, ho =>
        obtain rfl := Option.some.inj ho
        obtain ⟨_, h17, rfl⟩ := given_fed hg 17 (by decide +kernel)
        clear hg
        exact st_yield ho (wanted_none rfl) (.slice av ns cs) w6 (by simp [execOp, Act.eval, h17, go_sem, x1]) ⟨_, rfl, Below.refl _ _, by rintro t' ⟨⟩; rfl⟩
      | 8, ho =>
        obtain rfl := Option.some.inj ho
        obtain ⟨_, h18, rfl⟩ := given_fed hg 18 (by decide +kernel)
        clear hg
        exact st_yield ho (wanted_none rfl) (.int .i64 (ns : Int)) w6 (by simp [execOp, Act.eval, h18, go_sem, resolve]) ⟨_, rfl, Below.refl _ _, by rintro t' ⟨⟩; rfl⟩
      | 9, ho =>
        obtain rfl := Option.some.inj ho
        have h1 := given_old hg 1 (by decide +kernel)
        clear hg
        exact st_yield ho (wanted_none rfl) (.string key) w6 (by simp [execOp, Act.eval, h1, go_sem]) ⟨_, rfl, Below.refl _ _, by rintro t' ⟨⟩; rfl⟩
      | 10, ho =>
        obtain rfl := Option.some.inj ho
        obtain ⟨_, h20, rfl⟩ := given_fed hg 20 (by decide +kernel)
        clear hg
        exact st_enter (w1 := w6) ho (wanted_none rfl) 34 #[.string key] (by simp [execOp, Act.eval, h20, resolve, go_sem]) ((CH.out w6).mono (by rintro e w7 ⟨rfl, hb7⟩; exact ⟨_, rfl, _, rfl, hb7, by rintro t' ⟨⟩; rfl⟩))
      | 11, ho =>
        obtain rfl := Option.some.inj ho
        obtain ⟨_, h14, rfl⟩ := given_fed hg 14 (by decide +kernel)
        obtain ⟨_, h19, rfl⟩ := given_fed hg 19 (by decide +kernel)
        obtain ⟨_, h21, rfl⟩ := given_fed hg 21 (by decide +kernel)
        clear hg
        exact st_enter (w1 := w6) ho (wanted_none rfl) 69 #[.pointer (some ⟨b, 0, none⟩), .int .i64 (ns : Int), .int .u64 (hk : Int)] (by simp [execOp, Act.eval, h14, h19, h21, resolve, go_sem]) ((CR.out w6 hb6).mono (by rintro e w7 ⟨rfl, hb7⟩; exact ⟨_, rfl, _, rfl, hb7, by rintro t' ⟨⟩; rfl⟩))
      | 12, ho =>
        obtain rfl := Option.some.inj ho
        obtain ⟨_, h22, rfl⟩ := given_fed hg 22 (by decide +kernel)
        clear hg
        exact st_yield ho (wanted_none rfl) (.tuple #[.int .i64 ((0 : Nat) : Int), .bool false]) w6 (by simp [execOp, Act.eval, h22, go_sem]) ⟨_, rfl, Below.refl _ _, by rintro t' ⟨⟩; rfl⟩
      | 13, ho =>
        obtain rfl := Option.some.inj ho
        obtain ⟨_, h10, rfl⟩ := given_fed hg 10 (by decide +kernel)
        clear hg
        exact st_yield ho (wanted_none rfl) (.int .i64 ((0 : Nat) : Int)) w6 (by simp [execOp, Act.eval, h10, go_sem]) ⟨_, rfl, Below.refl _ _, by rintro t' ⟨⟩; rfl⟩
      | 14, ho =>
        obtain rfl := Option.some.inj ho
        obtain ⟨_, h10, rfl⟩ := given_fed hg 10 (by decide +kernel)
        clear hg
        exact st_yield ho (wanted_none rfl) (.bool false) w6 (by simp [execOp, Act.eval, h10, go_sem]) ⟨_, rfl, Below.refl _ _, by rintro t' ⟨⟩; rfl⟩
      | 15, ho =>
        obtain rfl := Option.some.inj ho
        obtain ⟨_, h23, rfl⟩ := given_fed hg 23 (by decide +kernel)
        clear hg
        exact st_yield ho (wanted_none rfl) (.int .i64 ((0 : Nat) : Int)) w6 (by simp [execOp, Act.eval, h23, go_sem]) ⟨_, rfl, Below.refl _ _, by rintro t' ⟨⟩; rfl⟩
      | 16, ho =>
        obtain rfl := Option.some.inj ho
        obtain ⟨_, h24, rfl⟩ := given_fed hg 24 (by decide +kernel)
        clear hg
        exact st_yield ho (wanted_none rfl) (.bool false) w6 (by simp [execOp, Act.eval, h24, go_sem]) ⟨_, rfl, Below.refl _ _, by rintro t' ⟨⟩; rfl⟩
      | n + 17, ho => simp at ho
    · intro f w6 hb6 hv
      have h5 := hv 5 (by decide)
      have h6 := hv 6 (by decide)
      simp only [VWA] at h5 h6
      have HB := Go.Lib.hid hb6
      clear hv hb6 CH CR HX
      unfold putAll
      simp only [List.foldl]
      simp only [h5, h6]
      clear h5 h6
      go_simp
      go_wp2_with fail
      go_ret
      exact ⟨_, rfl, Lay.R.nil _, HB.out⟩
  | some r =>
    have hrl := rank_lt _ _ _ _ _ _ _ hrk
    rw [hrk] at CR
    unfold endV at CR
    simp only [] at CR ⊢
    obtain ⟨g1, g2, g3⟩ := hgr r (by omega)
    have hns : (startsG hR P).length ≤ 1000 := by omega
    have hrn : r < (startsG hR P).length := by omega
    have hst : (startsG hR P).getD r 0 = (startsG hR P)[r] := getD_in hrn 0
    have hen : ∀ hq : r + 1 < (startsG hR P).length, endG hR P r = (startsG hR P)[r + 1] := fun hq => getD_in hq _
    have heo : ¬ r + 1 < (startsG hR P).length → endG hR P r = P.length := fun hq => getD_out (by omega) _
    have HG := Go.Lib.hid g3
    have hsl2 := fun W => K4_ok.run_lh a P.length cap ((startsG hR P).getD r 0) (endG hR P r) g1 (by omega) .i64 .i64 W
    have HRC := Go.Lib.hid (show ∀ W, Below w.heap.size w W → K4.R W (sliced a ((startsG hR P).getD r 0) (endG hR P r) cap K4.size) ((P.take (endG hR P r)).drop ((startsG hR P).getD r 0)) from fun W hb => (HRP.out W hb).cut K4_ok _ _ _ g1 g2 (by omega) (Nat.le_refl _))
    have hrow : K4.row = 24 := rfl
    rw [hrow] at hsl2
    generalize sliced a ((startsG hR P).getD r 0) (endG hR P r) cap K4.size = sv at *
    rw [HG.out] at HRC
    obtain ⟨bs, ob, rfl, hcs⟩ : ∃ bs o, av = some ⟨bs, o, none⟩ ∧ ∀ W, Below w.heap.size w W → W.cell? ⟨bs, o + r, none⟩ = some (.int .i64 (((startsG hR P).getD r 0 : Nat) : Int)) ∧ (∀ hq : r + 1 < (startsG hR P).length, W.cell? ⟨bs, o + (r + 1), none⟩ = some (.int .i64 ((endG hR P r : Nat) : Int))) := by
      obtain ⟨bs, o, e, -, -, -⟩ := KN.at' (HRS.out w (Below.refl _ _)) r hrn
      refine ⟨bs, o, e, fun W hb => ⟨?_, fun hq => ?_⟩⟩
      · obtain ⟨bs', o', e', -, -, hc⟩ := KN.at' (HRS.out W hb) r hrn
        rw [e] at e'
        cases e'
        rw [hst]
        exact hc
      · obtain ⟨bs', o', e', -, -, hc⟩ := KN.at' (HRS.out W hb) (r + 1) hq
        rw [e] at e'
        cases e'
        rw [hen hq]
        exact hc
    have HCS := Go.Lib.hid hcs
    clear hrk hgr hkk HRP HRS hsl g1 g2 g3 HG hst hen hrl hrow hcs
    generalize (startsG hR P).getD r 0 = s0 at *
    generalize endG hR P r = e0 at *
    generalize (List.filter _ P) = OUT at *
    generalize (startsG hR P).length = ns at *
    obtain ⟨n, hn⟩ : ∃ n, n = P.length := ⟨_, rfl⟩
    rw [← hn] at hsl2 heo HX x0 hL hcap hm hhl
    clear hn
    go_enter Try.func49, Try.ntmps49
    go_upto_region 3 with (fail)
    clear x0 x1 x2
    refine wp_region_each (by kernel_rfl) (VWA p b ns cs hk r (some ⟨bs, ob, none⟩) key true) (VWA_below p b ns cs hk r (some ⟨bs, ob, none⟩) key true) (by decide +kernel) (by decide +kernel) (by rfl) [11, 12, 13, 14, 15, 16, 17, 18, 19, 20, 21, 22, 10, 23, 24, 5, 6] (by rfl) ?_ ?_
    · intro i o ho a w6 hb6 hlen hg
      obtain ⟨x0, x1, x2⟩ := HX.out w6 hb6
      match i, ho with
      | 0, ho =>
        obtain rfl := Option.some.inj ho
        have h0 := given_old hg 0 (by decide +kernel)
        clear hg
        exact st_yield ho (wanted_none rfl) (.pointer (some ⟨p, 0, none⟩)) w6 (by simp [execOp, Act.eval, h0, go_sem]) ⟨_, rfl, Below.refl _ _, by rintro t' ⟨⟩; rfl⟩
      | 1, ho =>
        obtain rfl := Option.some.inj ho
        obtain ⟨_, h11, rfl⟩ := given_fed hg 11 (by decide +kernel)
        clear hg
        exact st_yield ho (wanted_none rfl) (.pointer (some ⟨p, 0, none⟩)) w6 (by simp [execOp, Act.eval, h11, go_sem]) ⟨_, rfl, Below.refl _ _, by rintro t' ⟨⟩; rfl⟩
      | 2, ho =>
        obtain rfl := Option.some.inj ho
        obtain ⟨_, h12, rfl⟩ := given_fed hg 12 (by decide +kernel)
        clear hg
        exact st_yield ho (wanted_none rfl) (.pointer (some ⟨p, 2, none⟩)) w6 (by simp [execOp, Act.eval, h12, go_sem]) ⟨_, rfl, Below.refl _ _, by rintro t' ⟨⟩; rfl⟩
      | 3, ho =>
        obtain rfl := Option.some.inj ho
        obtain ⟨_, h13, rfl⟩ := given_fed hg 13 (by decide +kernel)
        clear hg
        exact st_yield ho (wanted_none rfl) (.pointer (some ⟨b, 0, none⟩)) w6 (by simp [execOp, Act.eval, h13, go_sem, x2]) ⟨_, rfl, Below.refl _ _, by rintro t' ⟨⟩; rfl⟩
      | 4, ho =>
        obtain rfl := Option.some.inj ho
        have h0 := given_old hg 0 (by decide +kernel)
        clear hg
        exact st_yield ho (wanted_none rfl) (.pointer (some ⟨p, 0, none⟩)) w6 (by simp [execOp, Act.eval, h0, go_sem]) ⟨_, rfl, Below.refl _ _, by rintro t' ⟨⟩; rfl⟩
      | 5, ho =>
        obtain rfl := Option.some.inj ho
        obtain ⟨_, h15, rfl⟩ := given_fed hg 15 (by decide +kernel)
        clear hg
        exact st_yield ho (wanted_none rfl) (.pointer (some ⟨p, 0, none⟩)) w6 (by simp [execOp, Act.eval, h15, go_sem]) ⟨_, rfl, Below.refl _ _, by rintro t' ⟨⟩; rfl⟩
      | 6, ho =>
        obtain rfl := Option.some.inj ho
        obtain ⟨_, h16, rfl⟩ := given_fed hg 16 (by decide +kernel)
        clear hg
        exact st_yield ho (wanted_none rfl) (.pointer (some ⟨p, 1, none⟩)) w6 (by simp [execOp, Act.eval, h16, go_sem]) ⟨_, rfl, Below.refl _ _, by rintro t' ⟨⟩; rfl⟩
      | 7, ho =>
        obtain rfl := Option.some.inj ho
        obtain ⟨_, h17, rfl⟩ := given_fed hg 17 (by decide +kernel)
        clear hg
        exact st_yield ho (wanted_none rfl) (.slice (some ⟨bs, ob, none⟩) ns cs) w6 (by simp [execOp, Act.eval, h17, go_sem, x1]) ⟨_, rfl, Below.refl _ _, by rintro t' ⟨⟩; rfl⟩
      | 8, ho =>
        obtain rfl := Option.some.inj ho
        obtain ⟨_, h18, rfl⟩ := given_fed hg 18 (by decide +kernel)
        clear hg
        exact st_yield ho (wanted_none rfl) (.int .i64 (ns : Int)) w6 (by simp [execOp, Act.eval, h18, go_sem, resolve]) ⟨_, rfl, Below.refl _ _, by rintro t' ⟨⟩; rfl⟩
      | 9, ho =>
        obtain rfl := Option.some.inj ho
        have h1 := given_old hg 1 (by decide +kernel)
        clear hg
        exact st_yield ho (wanted_none rfl) (.string key) w6 (by simp [execOp, Act.eval, h1, go_sem]) ⟨_, rfl, Below.refl _ _, by rintro t' ⟨⟩; rfl⟩
      | 10, ho =>
        obtain rfl := Option.some.inj ho
        obtain ⟨_, h20, rfl⟩ := given_fed hg 20 (by decide +kernel)
        clear hg
        exact st_enter (w1 := w6) ho (wanted_none rfl) 34 #[.string key] (by simp [execOp, Act.eval, h20, resolve, go_sem]) ((CH.out w6).mono (by rintro e w7 ⟨rfl, hb7⟩; exact ⟨_, rfl, _, rfl, hb7, by rintro t' ⟨⟩; rfl⟩))
      | 11, ho =>
        obtain rfl := Option.some.inj ho
        obtain ⟨_, h14, rfl⟩ := given_fed hg 14 (by decide +kernel)
        obtain ⟨_, h19, rfl⟩ := given_fed hg 19 (by decide +kernel)
        obtain ⟨_, h21, rfl⟩ := given_fed hg 21 (by decide +kernel)
        clear hg
        exact st_enter (w1 := w6) ho (wanted_none rfl) 69 #[.pointer (some ⟨b, 0, none⟩), .int .i64 (ns : Int), .int .u64 (hk : Int)] (by simp [execOp, Act.eval, h14, h19, h21, resolve, go_sem]) ((CR.out w6 hb6).mono (by rintro e w7 ⟨rfl, hb7⟩; exact ⟨_, rfl, _, rfl, hb7, by rintro t' ⟨⟩; rfl⟩))
      | 12, ho =>
        obtain rfl := Option.some.inj ho
        obtain ⟨_, h22, rfl⟩ := given_fed hg 22 (by decide +kernel)
        clear hg
        exact st_yield ho (wanted_none rfl) (.tuple #[.int .i64 (r : Int), .bool true]) w6 (by simp [execOp, Act.eval, h22, go_sem]) ⟨_, rfl, Below.refl _ _, by rintro t' ⟨⟩; rfl⟩
      | 13, ho =>
        obtain rfl := Option.some.inj ho
        obtain ⟨_, h10, rfl⟩ := given_fed hg 10 (by decide +kernel)
        clear hg
        exact st_yield ho (wanted_none rfl) (.int .i64 (r : Int)) w6 (by simp [execOp, Act.eval, h10, go_sem]) ⟨_, rfl, Below.refl _ _, by rintro t' ⟨⟩; rfl⟩
      | 14, ho =>
        obtain rfl := Option.some.inj ho
        obtain ⟨_, h10, rfl⟩ := given_fed hg 10 (by decide +kernel)
        clear hg
        exact st_yield ho (wanted_none rfl) (.bool true) w6 (by simp [execOp, Act.eval, h10, go_sem]) ⟨_, rfl, Below.refl _ _, by rintro t' ⟨⟩; rfl⟩
      | 15, ho =>
        obtain rfl := Option.some.inj ho
        obtain ⟨_, h23, rfl⟩ := given_fed hg 23 (by decide +kernel)
        clear hg
        exact st_yield ho (wanted_none rfl) (.int .i64 (r : Int)) w6 (by simp [execOp, Act.eval, h23, go_sem]) ⟨_, rfl, Below.refl _ _, by rintro t' ⟨⟩; rfl⟩
      | 16, ho =>
        obtain rfl := Option.some.inj ho
        obtain ⟨_, h24, rfl⟩ := given_fed hg 24 (by decide +kernel)
        clear hg
        exact st_yield ho (wanted_none rfl) (.bool true) w6 (by simp [execOp, Act.eval, h24, go_sem]) ⟨_, rfl, Below.refl _ _, by rintro t' ⟨⟩; rfl⟩
      | n + 17, ho => simp at ho
    · intro f w6 hb6 hv
      have h5 := hv 5 (by decide)
      have h6 := hv 6 (by decide)
      simp only [VWA] at h5 h6
      obtain ⟨x0, x1, x2⟩ := HX.out w6 hb6
      obtain ⟨y0, y1⟩ := HCS.out w6 hb6
      have HB := Go.Lib.hid hb6
      clear hv hb6 CH CR HX HCS
      unfold putAll
      simp only [List.foldl]
      simp only [h5, h6]
      clear h5 h6
      go_simp
      have hi0 := idxN bs ob ns cs r hrn
      obtain ⟨q, hq⟩ : ∃ q, q = r + 1 := ⟨_, rfl⟩
      have hqI : (r : Int) + 1 = (q : Int) := by omega
      have hq2 : q ≤ 1000 := by omega
      by_cases hqn : q < ns
      · have hqnI : (q : Int) < (ns : Int) := by omega
        have y1 := y1 (by omega)
        rw [← hq] at y1
        have hi1 := idxN bs ob ns cs q hqn
        clear heo hq
        go_upto_region 9 with (fail)
        go_quiet (fail)
        go_wp2_with fail
        go_ret
        exact ⟨_, rfl, HRC.out _ (below_drewN HB.out _), below_drewN HB.out _⟩
      · have hqnI : ¬ (q : Int) < (ns : Int) := by omega
        obtain rfl := heo (by omega)
        clear y1 hq
        go_upto_region 9 with (fail)
        go_quiet (fail)
        go_wp2_with fail
        go_ret
        exact ⟨_, rfl, HRC.out _ (below_drewN HB.out _), below_drewN HB.out _⟩

end Go.Proofs.Ytibbligidncocaa

namespace Go.Proofs.Ytibbligidncocaa
open Go.RowKit

set_option maxRecDepth 100000 in
theorem sreads_c {w : World} {B p : Nat} {P : List RecT} (h : SW w B p P) (key : ByteArray) (hk : key.size ≤ 1000000) :
    Calls Try.prog 26 #[.pointer (some ⟨p, 0, none⟩), .string key] w fun e w' => e = .returned (.int .i64 (sreadsK P (hashS key) : Int)) ∧ Below w.heap.size w w' := by
  have C := Go.Lib.hid (salike_c h key hk)
  have HE := Go.Lib.hid (show (aliG hR P (hashS key)).length = sreadsK P (hashS key) from by
    unfold aliG sreadsK
    cases rankB (treeL 64 (hashesG hR P)) (hashS key) 64 0 (hashesG hR P).length 0 with
    | none => rfl
    | some r => exact List.countP_eq_length_filter.symm)
  clear h
  generalize aliG hR P (hashS key) = L at *
  go_enter Try.func26, Try.ntmps26
  go_wp2_with fail
  refine C.out.mono ?_
  rintro e w1 ⟨v, rfl, ho, hb⟩
  have HB := Go.Lib.hid hb
  obtain ⟨a, cap, rfl, -⟩ := ho.form
  clear hb C ho
  go_wp2_with fail
  go_ret
  exact ⟨by rw [HE.out]; rfl, HB.out⟩

theorem ret_sget_at {w w0 : World} {tmps : Array Value} {k n : Int} {s : ByteArray} {g : Nat} {fr : Nat × Nat} {b : Bool} {v : Value}
    (hp : tmps.getD 4 undef = .pointer (some ⟨g, 0, none⟩)) (hg : w.heap[g]? = some (.cells #[.int .i64 k, .int .i64 n, .string s] 37 fr)) (h3 : tmps.getD 5 undef = .bool b)
    (hr : v = .tuple #[.agg #[.int .i64 k, .int .i64 n, .string s], .bool b]) (hb : Below w0.heap.size w0 w) : bodyPost Try.prog Try.f25 (fun e w' => e = .returned v ∧ Below w0.heap.size w0 w') Exit.ret { tmps := tmps, defers := [] } w := by
  subst hr
  have h := results_row_one (P := Try.prog) (fn := Try.f25) (p := 4) (u := 5) (ty := 37) rfl tmps w g 37 #[.int .i64 k, .int .i64 n, .string s] fr _ hp hg Try.underlying37 rfl (by kernel_rfl)
  rw [h3] at h
  exact bodyPost_ret h rfl ⟨rfl, hb⟩

/-- Get of what is alike: l. -/
structure SGetI (w : World) (g : Nat) (v : Value) (l : List RecT) (key : ByteArray) (k : Nat) (w' : World) : Prop where
  rs : K4.R w' v l
  no : ∀ x ∈ l.take k, keyR x ≠ key.toList
  bel : Below g w w'
  box : w'.heap[g]? = some (.cells #[.int .i64 0, .int .i64 0, .string ⟨#[]⟩] 37 (0, 0))
theorem SGetI.below {w w' w'' : World} {g : Nat} {v : Value} {l : List RecT} {key : ByteArray} {k : Nat} (h : SGetI w g v l key k w') (hb : Below w'.heap.size w' w'') (hg : g ≤ w'.heap.size) : SGetI w g v l key k w'' :=
  ⟨h.rs.below hb, h.no, h.bel.trans (hb.mono hg), (hb.block g (Array.getElem?_eq_some_iff.1 h.box).1).trans h.box⟩
theorem alike_findS {P : List RecT} (h : mayP P = true) (key : ByteArray) : findK keyR (aliG hR P (hashS key)) key.toList = findK keyR P key.toList := by
  have hl := mayP_len h
  refine aliG_find hR P _ (hashS key) (mayP_rise h) (fun x _ => hashS_lt x.1) (by omega) fun x _ hx => ?_
  have : x.1 = key := toList_inj (of_decide_eq_true hx)
  unfold hR
  rw [this]

set_option maxHeartbeats 2000000 in
set_option maxRecDepth 100000 in
theorem sget_c {w : World} {B p : Nat} {P : List RecT} (h : SW w B p P) (key : ByteArray) (hk : key.size ≤ 1000000) :
    Calls Try.prog 25 #[.pointer (some ⟨p, 0, none⟩), .string key] w fun e w' => e = .returned (outV (findK keyR P key.toList)) ∧ Below w.heap.size w w' := by
  have hb1 := below_one w (.cells #[.int .i64 0, .int .i64 0, .string ⟨#[]⟩] 37)
  have HB1 := Go.Lib.hid hb1
  have HA := Go.Lib.hid (heap_alloc_new w (.cells #[.int .i64 0, .int .i64 0, .string ⟨#[]⟩] 37))
  have C := Go.Lib.hid (salike_c (h.below hb1) key hk)
  have HF := Go.Lib.hid (alike_findS h.may key)
  have HSZ := Go.Lib.hid (fun x (hx : x ∈ aliG hR P (hashS key)) => mayP_sizes h.may x (aliG_mem hx))
  clear h hb1
  rw [← HF.out]
  clear HF
  generalize aliG hR P (hashS key) = l at *
  obtain ⟨g, hg⟩ : ∃ g, g = w.heap.size := ⟨_, rfl⟩
  have HG := Go.Lib.hid hg
  rw [← hg] at HA HB1
  clear hg
  go_enter Try.func25, Try.ntmps25
  go_wp2_with fail
  refine C.out.mono ?_
  rintro e w1 ⟨v, rfl, ho, hc⟩
  rw [← HG.out]
  have hgs : g ≤ (w.alloc (.cells #[.int .i64 0, .int .i64 0, .string ⟨#[]⟩] 37)).heap.size := by rw [HG.out]; exact HB1.out.size
  have HI := Go.Lib.hid (show SGetI w g v l key 0 w1 from ⟨ho, by simp, HB1.out.trans (hc.mono hgs), (hc.block g (Array.getElem?_eq_some_iff.1 HA.out).1).trans HA.out⟩)
  obtain ⟨a, cap, rfl, hm⟩ := ho.form
  clear ho hc C HA HB1 hgs
  go_wp2_with fail
  go_loopw [12] (fun ki wr => ∃ k : Nat, k ≤ l.length ∧ ki = .int .i64 (k : Int) ∧ Hid (SGetI w g (.slice a l.length cap) l key k wr)) (fun ki _ => l.length - (intOf ki).toNat)
  case atStart => exact ⟨0, by omega, rfl, HI⟩
  case round =>
    clear HI
    obtain ⟨k, hk, rfl, HI⟩ := hrel
    have hgw : g ≤ wr.heap.size := Nat.le_of_lt (Array.getElem?_eq_some_iff.1 HI.out.box).1
    by_cases hlt : k < l.length
    · obtain ⟨b, o, rfl, -, -, c0, c1, c2, c3⟩ := K4.at' HI.out.rs k hlt
      have hix := idx4 b o l.length cap k hlt
      have HYES := Go.Lib.hid (fun (he : keyR l[k] = key.toList) => show findK keyR l key.toList = some l[k] from by
        unfold findK
        rw [List.find?_eq_some_iff_getElem]
        refine ⟨by simpa using he, k, hlt, rfl, fun j hj => ?_⟩
        simp only [Bool.not_eq_true', decide_eq_false_iff_not]
        exact HI.out.no _ (List.mem_take_iff_getElem.2 ⟨j, by omega, rfl⟩))
      have HNEX := Go.Lib.hid (fun (he : keyR l[k] ≠ key.toList) => show ∀ x ∈ l.take (k + 1), keyR x ≠ key.toList from fun x hx => by
        rw [List.take_succ_eq_append_getElem hlt] at hx
        rcases List.mem_append.1 hx with h | h
        · exact HI.out.no x h
        · rw [List.mem_singleton.1 h]; exact he)
      have hsz := HSZ.out _ (List.getElem_mem hlt)
      generalize l[k] = x at *
      obtain ⟨kx, gx, ax, nx, sx⟩ := x
      simp only [] at c0 c1 c2 c3 hsz
      have CR := Go.Lib.hid fun W => fraw_c ax nx sx W (by omega)
      have hbA := below_one wr (.cells #[.string kx, .int .i64 ax, .int .i64 nx, .string sx] 42)
      have HX := Go.Lib.hid (heap_alloc_new wr (.cells #[.string kx, .int .i64 ax, .int .i64 nx, .string sx] 42))
      have HI2 := Go.Lib.hid (HI.out.below hbA hgw)
      clear hbA hsz HI hgw
      go_upto_region 4 with (fail)
      obtain ⟨g3, hg3⟩ : ∃ g, g = wr.heap.size := ⟨_, rfl⟩
      rw [← hg3] at HX ⊢
      clear hg3 c0 c1 c2 c3 hix
      generalize wr.alloc (.cells #[.string kx, .int .i64 ax, .int .i64 nx, .string sx] 42) = w4 at *
      obtain ⟨x0, x1, x2, x3⟩ := pair4 HX.out
      by_cases hq : kx.toList = key.toList
      · have HE := Go.Lib.hid (HYES.out hq)
        have hqb : (kx.toList == key.toList) = true := beq_iff_eq.2 hq
        clear HYES HNEX
        go_wp2_with fail
        refine (CR.out _).mono ?_
        rintro e w5 ⟨rfl, hc⟩
        have HI5 := Go.Lib.hid (HI2.out.below hc (Nat.le_of_lt (Array.getElem?_eq_some_iff.1 HI2.out.box).1))
        clear hc CR HI2 x0 x1 x2 x3 HX
        go_wp2_with (first
          | (with_reducible show wpList _ _ _ (⟨none, Op.store 37 (.tmp 4) (.tmp 22), _, _, _, _⟩ :: _) _ _; go_loud (refine wpList_store_row rfl 37 (.tmp 4) (.tmp 22) rfl g #[.int .i64 ax, .int .i64 nx, .string sx] rfl rfl 37 _ HI5.out.box (by kernel_rfl) rfl (raw_cells_one ..) ?_))
          | fail)
        refine ret_sget_at rfl (setRow_heap _ _ _ _ _ (0, 0) HI5.out.box) rfl ?_ (setRow_below _ (by rw [← HG.out]; exact HI5.out.bel) (by rw [HG.out]; exact Nat.le_refl _))
        rw [HE.out]
        rfl
      · have HS := Go.Lib.hid (HNEX.out hq)
        have hqb : (kx.toList == key.toList) = false := beq_eq_false_iff_ne.2 hq
        clear HYES HNEX
        go_wp2_with fail
        exact ⟨⟨k + 1, by omega, by go_num, Go.Lib.hid ⟨HI2.out.rs, HS.out, HI2.out.bel, HI2.out.box⟩⟩, by simp only [intOf]; omega⟩
    · obtain rfl : k = l.length := by omega
      have HE := Go.Lib.hid (show findK keyR l key.toList = none from (find_none _).2 (by have := HI.out.no; rwa [List.take_length] at this))
      go_wp2_with (first
        | (with_reducible show wpList _ _ _ (⟨none, Op.store 37 (.tmp 4) (.tmp 24), _, _, _, _⟩ :: _) _ _; go_loud (refine wpList_store_row rfl 37 (.tmp 4) (.tmp 24) rfl g #[.int .i64 0, .int .i64 0, .string ⟨#[]⟩] rfl rfl 37 _ HI.out.box (by kernel_rfl) rfl (raw_cells_one ..) ?_))
        | fail)
      refine ret_sget_at rfl (setRow_heap _ _ _ _ _ (0, 0) HI.out.box) rfl ?_ (setRow_below _ (by rw [← HG.out]; exact HI.out.bel) (by rw [HG.out]; exact Nat.le_refl _))
      rw [HE.out]
      rfl

set_option maxRecDepth 100000 in
theorem snil_get (key : ByteArray) (w : World) : Calls Try.prog 25 #[.pointer none, .string key] w fun e w' => e = .returned (outV none) ∧ Below w.heap.size w w' := by
  have hb1 := below_one w (.cells #[.int .i64 0, .int .i64 0, .string ⟨#[]⟩] 37)
  have HB1 := Go.Lib.hid hb1
  have HA := Go.Lib.hid (heap_alloc_new w (.cells #[.int .i64 0, .int .i64 0, .string ⟨#[]⟩] 37))
  have C := Go.Lib.hid (snil_alike key (w.alloc (.cells #[.int .i64 0, .int .i64 0, .string ⟨#[]⟩] 37)))
  clear hb1
  go_enter Try.func25, Try.ntmps25
  go_wp2_with fail
  refine C.out.mono ?_
  rintro e w1 ⟨rfl, hc⟩
  have HA2 := Go.Lib.hid ((hc.block w.heap.size (Array.getElem?_eq_some_iff.1 HA.out).1).trans HA.out)
  have HB2 := Go.Lib.hid (HB1.out.trans (hc.mono HB1.out.size))
  clear hc C HA HB1
  go_wp2_with fail
  go_loopw [12] (fun ki wr => ki = .int .i64 0 ∧ wr = w1) (fun _ _ => 0)
  case atStart => exact ⟨rfl, rfl⟩
  case round =>
    obtain ⟨rfl, rfl⟩ := hrel
    go_wp2_with (first
      | (with_reducible show wpList _ _ _ (⟨none, Op.store 37 (.tmp 4) (.tmp 24), _, _, _, _⟩ :: _) _ _; go_loud (refine wpList_store_row rfl 37 (.tmp 4) (.tmp 24) rfl w.heap.size #[.int .i64 0, .int .i64 0, .string ⟨#[]⟩] rfl rfl 37 _ HA2.out (by kernel_rfl) rfl (raw_cells_one ..) ?_))
      | fail)
    exact ret_sget_at rfl (setRow_heap _ _ _ _ _ (0, 0) HA2.out) rfl rfl (setRow_below _ HB2.out (Nat.le_refl _))
end Go.Proofs.Ytibbligidncocaa
