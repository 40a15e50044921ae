/-
  Stage 22: a *sorted.Store in memory; the nil forms; Len.
  Stage 22: sorted.may.
  What lies apart: rows of other types, a *bits.Bits, slices that came in.
-/
import Derived.Test.YtibbligidncocaaM25
import Derived.Test.YtibbligidncocaaM18
import Derived.Test.YtibbligidncocaaM33
import Derived.Test.YtibbligidncocaaM20
import Derived.Test.YtibbligidncocaaM26
import Derived.Test.YtibbligidncocaaM23
import Derived.Test.YtibbligidncocaaM17
import Derived.Test.YtibbligidncocaaM03
namespace Go.Proofs.Ytibbligidncocaa
open Go.RowKit

/-- Block p is a Store of the pairs P: u their row, us where each hash begins, the tree at b with the row ub; all from block B on. -/
structure SV (w : World) (B p : Nat) (u us : Value) (b : Nat) (ub : Value) (P : List RecT) : Prop where
  bp : B ≤ p
  row : w.heap[p]? = some (.cells #[u, us, .pointer (some ⟨b, 0, none⟩)] 66 (0, 0))
  own : K4.O w B u P
  starts : KN.O w B us (startsG hR P)
  tree : BT w B b ub (treeL 64 (hashesG hR P))
  may : mayP P = true
def SW (w : World) (B p : Nat) (P : List RecT) : Prop := ∃ u us b ub, SV w B p u us b ub P
section
variable {w w' : World} {B p : Nat} {u us ub : Value} {b : Nat} {P : List RecT}
theorem SV.lt (h : SV w B p u us b ub P) : p < w.heap.size := (Array.getElem?_eq_some_iff.1 h.row).1
theorem SV.below (h : SV w B p u us b ub P) (hb : Below w.heap.size w w') : SV w' B p u us b ub P :=
  ⟨h.bp, (hb.block p h.lt).trans h.row, h.own.below hb, h.starts.below hb, h.tree.below hb, h.may⟩
theorem SV.mono {B' : Nat} (h : SV w B p u us b ub P) (hB : B' ≤ B) : SV w B' p u us b ub P := ⟨Nat.le_trans hB h.bp, h.row, h.own.mono hB, h.starts.mono hB, h.tree.mono hB, h.may⟩
theorem SV.cells (h : SV w B p u us b ub P) : w.cell? ⟨p, 0, none⟩ = some u ∧ w.cell? ⟨p, 1, none⟩ = some us ∧ w.cell? ⟨p, 2, none⟩ = some (.pointer (some ⟨b, 0, none⟩)) := by
  have c := fun j => cell_of_row w p j _ _ _ h.row
  exact ⟨c 0, c 1, c 2⟩
theorem SW.below (h : SW w B p P) (hb : Below w.heap.size w w') : SW w' B p P := by
  obtain ⟨u, us, b, ub, h⟩ := h
  exact ⟨u, us, b, ub, h.below hb⟩
theorem SW.mono {B' : Nat} (h : SW w B p P) (hB : B' ≤ B) : SW w B' p P := by
  obtain ⟨u, us, b, ub, h⟩ := h
  exact ⟨u, us, b, ub, h.mono hB⟩
theorem SW.may (h : SW w B p P) : mayP P = true := by
  obtain ⟨u, us, b, ub, h⟩ := h
  exact h.may
end
/-- Pairs that may be a store: their sizes, their order. -/
theorem mayX_sizes {x : RecT} (h : mayX x = true) : x.1.size ≤ 16 ∧ x.2.2.2.2.size ≤ 24 := by
  have h2 : mayT (plainR x) = true := h
  have h3 := mayT_short h2
  exact h3
theorem mayP_sizes {P : List RecT} (h : mayP P = true) : ∀ x ∈ P, x.1.size ≤ 16 ∧ x.2.2.2.2.size ≤ 24 := fun x hx => mayX_sizes ((mayP_sort.1 h).2.1 x hx)
theorem mayP_len {P : List RecT} (h : mayP P = true) : P.length ≤ 1000 := (mayP_sort.1 h).2.2
theorem mayP_rise {P : List RecT} (h : mayP P = true) : P.Pairwise fun a b => hR a ≤ hR b := sortK_hash (key := fun x : RecT => x.1) (mayP_sort.1 h).1

set_option maxRecDepth 100000 in
theorem slen_c {w : World} {B p : Nat} {P : List RecT} (h : SW w B p P) : Calls Try.prog 24 #[.pointer (some ⟨p, 0, none⟩)] w fun e w' => e = .returned (.int .i64 (P.length : Int)) ∧ w = w' := by
  obtain ⟨u, us, b, ub, h⟩ := h
  obtain ⟨x0, x1, x2⟩ := h.cells
  obtain ⟨a, cap, rfl, -⟩ := h.own.r.form
  clear h
  go_enter Try.func24, Try.ntmps24
  go_wp2_with fail
  go_ret
  exact ⟨rfl, rfl⟩
set_option maxRecDepth 100000 in
theorem snil_len (w : World) : Calls Try.prog 24 #[.pointer none] w fun e w' => e = .returned (.int .i64 0) ∧ w = w' := by
  go_enter Try.func24, Try.ntmps24
  go_wp2_with fail
  go_ret
  exact ⟨rfl, rfl⟩
set_option maxRecDepth 100000 in
theorem snil_list (w : World) : Calls Try.prog 27 #[.pointer none] w fun e w' => e = .returned (.slice none 0 0) ∧ Below w.heap.size w w' := by
  go_enter Try.func27, Try.ntmps27
  go_wp2_with fail
  go_ret
  exact ⟨rfl, Below.refl _ _⟩
set_option maxRecDepth 100000 in
theorem snil_bytes (w : World) : Calls Try.prog 16 #[.pointer none] w fun e w' => e = .returned (.slice none 0 0) ∧ Below w.heap.size w w' := by
  go_enter Try.func16, Try.ntmps16
  go_wp2_with fail
  go_ret
  exact ⟨rfl, Below.refl _ _⟩
set_option maxRecDepth 100000 in
theorem snil_alike (key : ByteArray) (w : World) : Calls Try.prog 49 #[.pointer none, .string key] w fun e w' => e = .returned (.slice none 0 0) ∧ Below w.heap.size w w' := by
  go_enter Try.func49, Try.ntmps49
  go_wp2_with fail
  go_ret
  exact ⟨rfl, Below.refl _ _⟩
set_option maxRecDepth 100000 in
theorem snil_reads (key : ByteArray) (w : World) : Calls Try.prog 26 #[.pointer none, .string key] w fun e w' => e = .returned (.int .i64 0) ∧ Below w.heap.size w w' := by
  have C := Go.Lib.hid (snil_alike key w)
  go_enter Try.func26, Try.ntmps26
  go_wp2_with fail
  refine C.out.mono ?_
  rintro e w1 ⟨rfl, hb⟩
  have HB := Go.Lib.hid hb
  clear hb C
  go_wp2_with fail
  go_ret
  exact ⟨rfl, HB.out⟩
end Go.Proofs.Ytibbligidncocaa

namespace Go.Proofs.Ytibbligidncocaa
open Go.RowKit

def VYA (_b _os _n _cap _k _j _g : Nat) (kx _px sx : ByteArray) (ax nx : Int) (_q : Bool) : Nat → World → Value → Prop
  | 15, _, v => v = .agg #[.string kx, .int .i64 ax, .int .i64 nx, .string sx]
  | 16, _, v => v = .agg #[.string kx, .bool false, .int .i64 ax, .int .i64 nx, .string sx]
  | 17, _, v => v = .bool false
  | 18, _, v => v = .bool true
  | 19, _, v => v = .bool true
  | 20, _, v => v = undef
  | 21, _, v => v = undef
  | 22, _, v => v = undef
  | 23, _, v => v = undef
  | 24, _, v => v = undef
  | 25, _, v => v = undef
  | 26, _, v => v = undef
  | 27, _, v => v = undef
  | 28, _, v => v = undef
  | 29, _, v => v = undef
  | 30, _, v => v = undef
  | 31, _, v => v = undef
  | 32, _, v => v = undef
  | 33, _, v => v = undef
  | 34, _, v => v = .bool true
  | _, _, _ => True

theorem VYA_below (b os n cap k j g : Nat) (kx px sx : ByteArray) (ax nx : Int) (q : Bool) : ∀ (i : Nat) (w w' : World) (v : Value), VYA b os n cap k j g kx px sx ax nx q i w v → Below w.heap.size w w' → VYA b os n cap k j g kx px sx ax nx q i w' v := by
  intro i w w' v h hb
  unfold VYA at h ⊢
  split at h <;> first | exact h | trivial | exact h

def VYB (_b _os _n _cap k _j _g : Nat) (kx _px sx : ByteArray) (ax nx : Int) (_q : Bool) : Nat → World → Value → Prop
  | 15, _, v => v = .agg #[.string kx, .int .i64 ax, .int .i64 nx, .string sx]
  | 16, _, v => v = .agg #[.string kx, .bool false, .int .i64 ax, .int .i64 nx, .string sx]
  | 17, _, v => v = .bool true
  | 18, _, v => v = .bool false
  | 19, _, v => v = .bool false
  | 20, _, v => v = .int .i64 (k : Int)
  | 21, _, v => v = .bool false
  | 22, _, v => v = .bool false
  | 23, _, v => v = undef
  | 24, _, v => v = undef
  | 25, _, v => v = undef
  | 26, _, v => v = undef
  | 27, _, v => v = undef
  | 28, _, v => v = undef
  | 29, _, v => v = undef
  | 30, _, v => v = undef
  | 31, _, v => v = undef
  | 32, _, v => v = undef
  | 33, _, v => v = .bool false
  | 34, _, v => v = .bool false
  | _, _, _ => True

theorem VYB_below (b os n cap k j g : Nat) (kx px sx : ByteArray) (ax nx : Int) (q : Bool) : ∀ (i : Nat) (w w' : World) (v : Value), VYB b os n cap k j g kx px sx ax nx q i w v → Below w.heap.size w w' → VYB b os n cap k j g kx px sx ax nx q i w' v := by
  intro i w w' v h hb
  unfold VYB at h ⊢
  split at h <;> first | exact h | trivial | exact h

def VYC (b os n cap k j g : Nat) (kx px sx : ByteArray) (ax nx : Int) (q : Bool) : Nat → World → Value → Prop
  | 15, _, v => v = .agg #[.string kx, .int .i64 ax, .int .i64 nx, .string sx]
  | 16, _, v => v = .agg #[.string kx, .bool false, .int .i64 ax, .int .i64 nx, .string sx]
  | 17, _, v => v = .bool true
  | 18, _, v => v = .bool false
  | 19, _, v => v = .bool false
  | 20, _, v => v = .int .i64 (k : Int)
  | 21, _, v => v = .bool true
  | 22, _, v => v = .bool true
  | 23, _, v => v = .slice (some ⟨b, os, none⟩) n cap
  | 24, _, v => v = .int .i64 (k : Int)
  | 25, _, v => v = .int .i64 (j : Int)
  | 26, _, v => v = .pointer (some ⟨b, os + j * 4, none⟩)
  | 27, _, v => v = .pointer (some ⟨b, os + j * 4, none⟩)
  | 28, _, v => v = .string px
  | 29, _, v => v = .pointer (some ⟨g, 0, none⟩)
  | 30, _, v => v = .string kx
  | 31, _, v => v = .bool q
  | 32, _, v => v = .bool (!q)
  | 33, _, v => v = .bool (!q)
  | 34, _, v => v = .bool (!q)
  | _, _, _ => True

theorem VYC_below (b os n cap k j g : Nat) (kx px sx : ByteArray) (ax nx : Int) (q : Bool) : ∀ (i : Nat) (w w' : World) (v : Value), VYC b os n cap k j g kx px sx ax nx q i w v → Below w.heap.size w w' → VYC b os n cap k j g kx px sx ax nx q i w' v := by
  intro i w w' v h hb
  unfold VYC at h ⊢
  split at h <;> first | exact h | trivial | exact h

set_option maxHeartbeats 2000000 in
set_option maxRecDepth 100000 in
theorem smay_c (v : Value) (l : List RecT) (t : Bool) (w : World) (h : K4.R w v l) (hs : SmallV l) (hl : l.length ≤ 1000000) (ht : mayP l = t) :
    Calls Try.prog 33 #[v] w fun e w' => e = .returned (.bool t) ∧ Below w.heap.size w w' := by
  obtain ⟨ad, cap, rfl, hm⟩ := h.form
  by_cases h1000 : l.length ≤ 1000
  case neg =>
    have hI : 1000 < (l.length : Int) := by omega
    obtain rfl : t = false := by
      cases t with
      | false => rfl
      | true => exact absurd (mayP_len ht) h1000
    clear h hs ht
    go_enter Try.func33, Try.ntmps33
    go_wp2_with fail
    go_ret
    exact ⟨rfl, Below.refl _ _⟩
  have hI : ¬ 1000 < (l.length : Int) := by omega
  have H := Go.Lib.hid h
  have HS := Go.Lib.hid hs
  have HT := Go.Lib.hid ht
  have HL := Go.Lib.hid h1000
  clear h hs ht
  go_enter Try.func33, Try.ntmps33
  go_wp2_with fail
  go_loopw [10] (fun i' wr => ∃ k : Nat, i' = .int .i64 (k : Int) ∧ k ≤ l.length ∧ Hid (∀ j, j < k → okAt l j = true) ∧ Below w.heap.size w wr) (fun i' _ => l.length - (intOf i').toNat)
  case atStart => exact ⟨0, rfl, by omega, Go.Lib.hid fun j hj => by omega, Below.refl _ _⟩
  case round =>
    obtain ⟨k, rfl, hk, HI, hb⟩ := hrel
    by_cases hlt : k < l.length
    · obtain ⟨b, os, rfl, -, hbl, c0, c1, c2, c3⟩ := K4.at' H.out k hlt
      have D0 := (hb.cell (p := ⟨b, os + k * 4, none⟩) hbl).trans c0
      have D1 := (hb.cell (p := ⟨b, os + k * 4 + 1, none⟩) hbl).trans c1
      have D2 := (hb.cell (p := ⟨b, os + k * 4 + 2, none⟩) hbl).trans c2
      have D3 := (hb.cell (p := ⟨b, os + k * 4 + 3, none⟩) hbl).trans c3
      have hbl1 : b < wr.heap.size := Nat.lt_of_lt_of_le hbl hb.size
      have hix := idx4 b os l.length cap k hlt
      obtain ⟨hs1, hs2⟩ := HS.out l[k] (List.getElem_mem hlt)
      have hno : Hid (okAt l k = false → t = false) := Go.Lib.hid fun h => by
        cases t with
        | false => rfl
        | true =>
          have := (mayP_iff l).1 HT.out
          rw [this.1 k hlt] at h
          cases h
      have hok : Hid (okAt l k = (mayX l[k] && (k == 0 || lessK (l.getD (k - 1) zeroX).1 l[k].1))) := Go.Lib.hid (by unfold okAt; rw [getD_at l k hlt])
      have hpre : Hid (0 < k → ∃ px : ByteArray, wr.cell? ⟨b, os + (k - 1) * 4, none⟩ = some (.string px) ∧ (l.getD (k - 1) zeroX).1 = px ∧ px.size ≤ 1000000) := Go.Lib.hid fun h0 => by
        obtain ⟨b', o', e, -, -, d0, -⟩ := K4.at' H.out (k - 1) (by omega)
        cases e
        exact ⟨_, (hb.cell (p := ⟨b, os + (k - 1) * 4, none⟩) hbl).trans d0, by rw [getD_at l (k - 1) (by omega)], (HS.out _ (List.getElem_mem _)).1⟩
      generalize l[k] = x at *
      obtain ⟨kx, gx, ax, nx, sx⟩ := x
      simp only [] at D0 D1 D2 D3 hs1 hs2 hok
      have CM := fun W => pmay_c kx false ax nx sx W (by unfold maxLen; omega) (by unfold maxLen; omega)
      have hmy : mayRec kx false ax nx sx = mayX (kx, gx, ax, nx, sx) := rfl
      unfold recV at CM
      have CO := Go.Lib.hid fun W => srec_c kx ax nx sx W
      rw [hmy] at CM
      obtain ⟨mx, hmx⟩ : ∃ mx, mayX (kx, gx, ax, nx, sx) = mx := ⟨_, rfl⟩
      rw [hmx] at CM hok
      have CM := Go.Lib.hid CM
      have hbA := below_one wr (.cells #[.string kx, .int .i64 ax, .int .i64 nx, .string sx] 42)
      have HX := Go.Lib.hid (heap_alloc_new wr (.cells #[.string kx, .int .i64 ax, .int .i64 nx, .string sx] 42))
      have HB2 := Go.Lib.hid (hb.trans (hbA.mono hb.size))
      have HPB := Go.Lib.hid (fun (q : Nat) (c : Value) (hc : wr.cell? ⟨b, q, none⟩ = some c) => (hbA.cell (p := ⟨b, q, none⟩) hbl1).trans hc)
      have hbl2 : b < (wr.alloc (.cells #[.string kx, .int .i64 ax, .int .i64 nx, .string sx] 42)).heap.size := Nat.lt_of_lt_of_le hbl1 hbA.size
      clear c0 c1 c2 c3 hmx hmy hbA hb
      go_upto_region 6 with (fail)
      obtain ⟨g, hg⟩ : ∃ g, g = wr.heap.size := ⟨_, rfl⟩
      rw [← hg] at HX ⊢
      clear hg hix D0 D1 D2 D3
      generalize wr.alloc (.cells #[.string kx, .int .i64 ax, .int .i64 nx, .string sx] 42) = w1 at *
      cases mx with
      | false =>
        have hf : t = false := hno.out (by rw [hok.out]; rfl)
        subst hf
        clear hno hok hpre HI
        refine wp_region_each (by kernel_rfl) (VYA b os l.length cap k 0 g kx kx sx ax nx true) (VYA_below b os l.length cap k 0 g kx kx sx ax nx true) (by decide +kernel) (by decide +kernel) (by rfl) [15, 16, 17, 18, 19, 20, 21, 22, 23, 24, 25, 26, 27, 28, 29, 30, 31, 32, 33, 34] (by rfl) ?_ ?_
        · intro i o ho a w6 hb6 hlen hg
          obtain ⟨y0, y1, y2, y3⟩ := pair4 (row_kept HX.out hb6)
          match i, ho with
          | 0, ho =>
            obtain rfl := Option.some.inj ho
            have h4 := given_old hg 4 (by decide +kernel)
            clear hg
            exact st_yield ho (wanted_none rfl) (.agg #[.string kx, .int .i64 ax, .int .i64 nx, .string sx]) w6 (by simp [execOp, Act.eval, h4, go_sem, y0, y1, y2, y3]) ⟨_, rfl, Below.refl _ _, by rintro t' ⟨⟩; rfl⟩
          | 1, ho =>
            obtain rfl := Option.some.inj ho
            obtain ⟨_, h15, rfl⟩ := given_fed hg 15 (by decide +kernel)
            clear hg
            exact st_enter (w1 := w6) ho (wanted_none rfl) 42 #[.agg #[.string kx, .int .i64 ax, .int .i64 nx, .string sx]] (by simp [execOp, Act.eval, h15, resolve, go_sem]) ((CO.out w6).mono (by rintro e w7 ⟨rfl, hb7⟩; exact ⟨_, rfl, _, rfl, hb7, by rintro t' ⟨⟩; rfl⟩))
          | 2, ho =>
            obtain rfl := Option.some.inj ho
            obtain ⟨_, h16, rfl⟩ := given_fed hg 16 (by decide +kernel)
            clear hg
            exact st_enter (w1 := w6) ho (wanted_none rfl) 53 #[.agg #[.string kx, .bool false, .int .i64 ax, .int .i64 nx, .string sx]] (by simp [execOp, Act.eval, h16, resolve, go_sem]) ((CM.out w6).mono (by rintro e w7 ⟨rfl, hb7⟩; exact ⟨_, rfl, _, rfl, hb7, by rintro t' ⟨⟩; rfl⟩))
          | 3, ho =>
            obtain rfl := Option.some.inj ho
            obtain ⟨_, h17, rfl⟩ := given_fed hg 17 (by decide +kernel)
            clear hg
            exact st_yield ho (wanted_none rfl) (.bool true) w6 (by simp [execOp, Act.eval, h17, go_sem]) ⟨_, rfl, Below.refl _ _, by rintro t' ⟨⟩; rfl⟩
          | 4, ho =>
            obtain rfl := Option.some.inj ho
            obtain ⟨_, h18, rfl⟩ := given_fed hg 18 (by decide +kernel)
            clear hg
            exact st_yield ho (wanted_none rfl) (.bool true) w6 (by simp [execOp, Act.eval, h18, go_sem]) ⟨_, rfl, Below.refl _ _, by rintro t' ⟨⟩; rfl⟩
          | 5, ho =>
            obtain rfl := Option.some.inj ho
            obtain ⟨_, h19, rfl⟩ := given_fed hg 19 (by decide +kernel)
            clear hg
            exact st_skip ho (wanted_not rfl rfl h19 (by decide)) ⟨_, rfl, Below.refl _ _, by rintro t' ⟨⟩; rfl⟩
          | 6, ho =>
            obtain rfl := Option.some.inj ho
            obtain ⟨_, h19, rfl⟩ := given_fed hg 19 (by decide +kernel)
            clear hg
            exact st_skip ho (wanted_not rfl rfl h19 (by decide)) ⟨_, rfl, Below.refl _ _, by rintro t' ⟨⟩; rfl⟩
          | 7, ho =>
            obtain rfl := Option.some.inj ho
            obtain ⟨_, h19, rfl⟩ := given_fed hg 19 (by decide +kernel)
            clear hg
            exact st_skip ho (wanted_not rfl rfl h19 (by decide)) ⟨_, rfl, Below.refl _ _, by rintro t' ⟨⟩; rfl⟩
          | 8, ho =>
            obtain rfl := Option.some.inj ho
            obtain ⟨_, h22, rfl⟩ := given_fed hg 22 (by decide +kernel)
            clear hg
            exact st_skip ho (wanted_undef rfl rfl h22) ⟨_, rfl, Below.refl _ _, by rintro t' ⟨⟩; rfl⟩
          | 9, ho =>
            obtain rfl := Option.some.inj ho
            obtain ⟨_, h22, rfl⟩ := given_fed hg 22 (by decide +kernel)
            clear hg
            exact st_skip ho (wanted_undef rfl rfl h22) ⟨_, rfl, Below.refl _ _, by rintro t' ⟨⟩; rfl⟩
          | 10, ho =>
            obtain rfl := Option.some.inj ho
            obtain ⟨_, h22, rfl⟩ := given_fed hg 22 (by decide +kernel)
            clear hg
            exact st_skip ho (wanted_undef rfl rfl h22) ⟨_, rfl, Below.refl _ _, by rintro t' ⟨⟩; rfl⟩
          | 11, ho =>
            obtain rfl := Option.some.inj ho
            obtain ⟨_, h22, rfl⟩ := given_fed hg 22 (by decide +kernel)
            clear hg
            exact st_skip ho (wanted_undef rfl rfl h22) ⟨_, rfl, Below.refl _ _, by rintro t' ⟨⟩; rfl⟩
          | 12, ho =>
            obtain rfl := Option.some.inj ho
            obtain ⟨_, h22, rfl⟩ := given_fed hg 22 (by decide +kernel)
            clear hg
            exact st_skip ho (wanted_undef rfl rfl h22) ⟨_, rfl, Below.refl _ _, by rintro t' ⟨⟩; rfl⟩
          | 13, ho =>
            obtain rfl := Option.some.inj ho
            obtain ⟨_, h22, rfl⟩ := given_fed hg 22 (by decide +kernel)
            clear hg
            exact st_skip ho (wanted_undef rfl rfl h22) ⟨_, rfl, Below.refl _ _, by rintro t' ⟨⟩; rfl⟩
          | 14, ho =>
            obtain rfl := Option.some.inj ho
            obtain ⟨_, h22, rfl⟩ := given_fed hg 22 (by decide +kernel)
            clear hg
            exact st_skip ho (wanted_undef rfl rfl h22) ⟨_, rfl, Below.refl _ _, by rintro t' ⟨⟩; rfl⟩
          | 15, ho =>
            obtain rfl := Option.some.inj ho
            obtain ⟨_, h22, rfl⟩ := given_fed hg 22 (by decide +kernel)
            clear hg
            exact st_skip ho (wanted_undef rfl rfl h22) ⟨_, rfl, Below.refl _ _, by rintro t' ⟨⟩; rfl⟩
          | 16, ho =>
            obtain rfl := Option.some.inj ho
            obtain ⟨_, h22, rfl⟩ := given_fed hg 22 (by decide +kernel)
            clear hg
            exact st_skip ho (wanted_undef rfl rfl h22) ⟨_, rfl, Below.refl _ _, by rintro t' ⟨⟩; rfl⟩
          | 17, ho =>
            obtain rfl := Option.some.inj ho
            obtain ⟨_, h22, rfl⟩ := given_fed hg 22 (by decide +kernel)
            clear hg
            exact st_skip ho (wanted_undef rfl rfl h22) ⟨_, rfl, Below.refl _ _, by rintro t' ⟨⟩; rfl⟩
          | 18, ho =>
            obtain rfl := Option.some.inj ho
            obtain ⟨_, h19, rfl⟩ := given_fed hg 19 (by decide +kernel)
            clear hg
            exact st_skip ho (wanted_not rfl rfl h19 (by decide)) ⟨_, rfl, Below.refl _ _, by rintro t' ⟨⟩; rfl⟩
          | 19, ho =>
            obtain rfl := Option.some.inj ho
            obtain ⟨_, h19, rfl⟩ := given_fed hg 19 (by decide +kernel)
            obtain ⟨_, h33, rfl⟩ := given_fed hg 33 (by decide +kernel)
            clear hg
            exact st_yield ho (wanted_none rfl) (.bool true) w6 (by simp [execOp, Act.eval, h19, h33, go_sem]) ⟨_, rfl, Below.refl _ _, by rintro t' ⟨⟩; rfl⟩
          | n + 20, ho => simp at ho
        · intro f w6 hb6 hv'
          have h34 := hv' 34 (by decide)
          simp only [VYA] at h34
          clear hv'
          have hb7 := HB2.out.trans (hb6.mono HB2.out.size)
          unfold putAll
          simp only [List.foldl]
          simp only [h34]
          go_simp
          go_wp2_with fail
          go_ret
          exact ⟨rfl, hb7⟩
      | true =>
        by_cases h0 : k = 0
        · have HI2 : Hid (∀ j, j < k + 1 → okAt l j = true) := Go.Lib.hid fun j hj => by
            obtain rfl : j = k := by omega
            rw [hok.out]
            simp [h0]
          clear hno hok hpre HI
          refine wp_region_each (by kernel_rfl) (VYB b os l.length cap k 0 g kx kx sx ax nx true) (VYB_below b os l.length cap k 0 g kx kx sx ax nx true) (by decide +kernel) (by decide +kernel) (by rfl) [15, 16, 17, 18, 19, 20, 21, 22, 23, 24, 25, 26, 27, 28, 29, 30, 31, 32, 33, 34] (by rfl) ?_ ?_
          · intro i o ho a w6 hb6 hlen hg
            obtain ⟨y0, y1, y2, y3⟩ := pair4 (row_kept HX.out hb6)
            match i, ho with
            | 0, ho =>
              obtain rfl := Option.some.inj ho
              have h4 := given_old hg 4 (by decide +kernel)
              clear hg
              exact st_yield ho (wanted_none rfl) (.agg #[.string kx, .int .i64 ax, .int .i64 nx, .string sx]) w6 (by simp [execOp, Act.eval, h4, go_sem, y0, y1, y2, y3]) ⟨_, rfl, Below.refl _ _, by rintro t' ⟨⟩; rfl⟩
            | 1, ho =>
              obtain rfl := Option.some.inj ho
              obtain ⟨_, h15, rfl⟩ := given_fed hg 15 (by decide +kernel)
              clear hg
              exact st_enter (w1 := w6) ho (wanted_none rfl) 42 #[.agg #[.string kx, .int .i64 ax, .int .i64 nx, .string sx]] (by simp [execOp, Act.eval, h15, resolve, go_sem]) ((CO.out w6).mono (by rintro e w7 ⟨rfl, hb7⟩; exact ⟨_, rfl, _, rfl, hb7, by rintro t' ⟨⟩; rfl⟩))
            | 2, ho =>
              obtain rfl := Option.some.inj ho
              obtain ⟨_, h16, rfl⟩ := given_fed hg 16 (by decide +kernel)
              clear hg
              exact st_enter (w1 := w6) ho (wanted_none rfl) 53 #[.agg #[.string kx, .bool false, .int .i64 ax, .int .i64 nx, .string sx]] (by simp [execOp, Act.eval, h16, resolve, go_sem]) ((CM.out w6).mono (by rintro e w7 ⟨rfl, hb7⟩; exact ⟨_, rfl, _, rfl, hb7, by rintro t' ⟨⟩; rfl⟩))
            | 3, ho =>
              obtain rfl := Option.some.inj ho
              obtain ⟨_, h17, rfl⟩ := given_fed hg 17 (by decide +kernel)
              clear hg
              exact st_yield ho (wanted_none rfl) (.bool false) w6 (by simp [execOp, Act.eval, h17, go_sem]) ⟨_, rfl, Below.refl _ _, by rintro t' ⟨⟩; rfl⟩
            | 4, ho =>
              obtain rfl := Option.some.inj ho
              obtain ⟨_, h18, rfl⟩ := given_fed hg 18 (by decide +kernel)
              clear hg
              exact st_yield ho (wanted_none rfl) (.bool false) w6 (by simp [execOp, Act.eval, h18, go_sem]) ⟨_, rfl, Below.refl _ _, by rintro t' ⟨⟩; rfl⟩
            | 5, ho =>
              obtain rfl := Option.some.inj ho
              have h3 := given_old hg 3 (by decide +kernel)
              obtain ⟨_, h19, rfl⟩ := given_fed hg 19 (by decide +kernel)
              clear hg
              exact st_yield ho (wanted_some rfl rfl h19 rfl) (.int .i64 (k : Int)) w6 (by simp [execOp, Act.eval, h3, go_sem]) ⟨_, rfl, Below.refl _ _, by rintro t' ⟨⟩; rfl⟩
            | 6, ho =>
              obtain rfl := Option.some.inj ho
              obtain ⟨_, h20, rfl⟩ := given_fed hg 20 (by decide +kernel)
              obtain ⟨_, h19, rfl⟩ := given_fed hg 19 (by decide +kernel)
              clear hg
              exact st_yield ho (wanted_some rfl rfl h19 rfl) (.bool false) w6 (by simp [execOp, Act.eval, h20, go_sem, h0]) ⟨_, rfl, Below.refl _ _, by rintro t' ⟨⟩; rfl⟩
            | 7, ho =>
              obtain rfl := Option.some.inj ho
              obtain ⟨_, h21, rfl⟩ := given_fed hg 21 (by decide +kernel)
              obtain ⟨_, h19, rfl⟩ := given_fed hg 19 (by decide +kernel)
              clear hg
              exact st_yield ho (wanted_some rfl rfl h19 rfl) (.bool false) w6 (by simp [execOp, Act.eval, h21, go_sem]) ⟨_, rfl, Below.refl _ _, by rintro t' ⟨⟩; rfl⟩
            | 8, ho =>
              obtain rfl := Option.some.inj ho
              obtain ⟨_, h22, rfl⟩ := given_fed hg 22 (by decide +kernel)
              clear hg
              exact st_skip ho (wanted_not rfl rfl h22 (by decide)) ⟨_, rfl, Below.refl _ _, by rintro t' ⟨⟩; rfl⟩
            | 9, ho =>
              obtain rfl := Option.some.inj ho
              obtain ⟨_, h22, rfl⟩ := given_fed hg 22 (by decide +kernel)
              clear hg
              exact st_skip ho (wanted_not rfl rfl h22 (by decide)) ⟨_, rfl, Below.refl _ _, by rintro t' ⟨⟩; rfl⟩
            | 10, ho =>
              obtain rfl := Option.some.inj ho
              obtain ⟨_, h22, rfl⟩ := given_fed hg 22 (by decide +kernel)
              clear hg
              exact st_skip ho (wanted_not rfl rfl h22 (by decide)) ⟨_, rfl, Below.refl _ _, by rintro t' ⟨⟩; rfl⟩
            | 11, ho =>
              obtain rfl := Option.some.inj ho
              obtain ⟨_, h22, rfl⟩ := given_fed hg 22 (by decide +kernel)
              clear hg
              exact st_skip ho (wanted_not rfl rfl h22 (by decide)) ⟨_, rfl, Below.refl _ _, by rintro t' ⟨⟩; rfl⟩
            | 12, ho =>
              obtain rfl := Option.some.inj ho
              obtain ⟨_, h22, rfl⟩ := given_fed hg 22 (by decide +kernel)
              clear hg
              exact st_skip ho (wanted_not rfl rfl h22 (by decide)) ⟨_, rfl, Below.refl _ _, by rintro t' ⟨⟩; rfl⟩
            | 13, ho =>
              obtain rfl := Option.some.inj ho
              obtain ⟨_, h22, rfl⟩ := given_fed hg 22 (by decide +kernel)
              clear hg
              exact st_skip ho (wanted_not rfl rfl h22 (by decide)) ⟨_, rfl, Below.refl _ _, by rintro t' ⟨⟩; rfl⟩
            | 14, ho =>
              obtain rfl := Option.some.inj ho
              obtain ⟨_, h22, rfl⟩ := given_fed hg 22 (by decide +kernel)
              clear hg
              exact st_skip ho (wanted_not rfl rfl h22 (by decide)) ⟨_, rfl, Below.refl _ _, by rintro t' ⟨⟩; rfl⟩
            | 15, ho =>
              obtain rfl := Option.some.inj ho
              obtain ⟨_, h22, rfl⟩ := given_fed hg 22 (by decide +kernel)
              clear hg
              exact st_skip ho (wanted_not rfl rfl h22 (by decide)) ⟨_, rfl, Below.refl _ _, by rintro t' ⟨⟩; rfl⟩
            | 16, ho =>
              obtain rfl := Option.some.inj ho
              obtain ⟨_, h22, rfl⟩ := given_fed hg 22 (by decide +kernel)
              clear hg
              exact st_skip ho (wanted_not rfl rfl h22 (by decide)) ⟨_, rfl, Below.refl _ _, by rintro t' ⟨⟩; rfl⟩
            | 17, ho =>
              obtain rfl := Option.some.inj ho
              obtain ⟨_, h22, rfl⟩ := given_fed hg 22 (by decide +kernel)
              clear hg
              exact st_skip ho (wanted_not rfl rfl h22 (by decide)) ⟨_, rfl, Below.refl _ _, by rintro t' ⟨⟩; rfl⟩
            | 18, ho =>
              obtain rfl := Option.some.inj ho
              obtain ⟨_, h22, rfl⟩ := given_fed hg 22 (by decide +kernel)
              obtain ⟨_, h32, rfl⟩ := given_fed hg 32 (by decide +kernel)
              obtain ⟨_, h19, rfl⟩ := given_fed hg 19 (by decide +kernel)
              clear hg
              exact st_yield ho (wanted_some rfl rfl h19 rfl) (.bool false) w6 (by simp [execOp, Act.eval, h22, h32, go_sem]) ⟨_, rfl, Below.refl _ _, by rintro t' ⟨⟩; rfl⟩
            | 19, ho =>
              obtain rfl := Option.some.inj ho
              obtain ⟨_, h19, rfl⟩ := given_fed hg 19 (by decide +kernel)
              obtain ⟨_, h33, rfl⟩ := given_fed hg 33 (by decide +kernel)
              clear hg
              exact st_yield ho (wanted_none rfl) (.bool false) w6 (by simp [execOp, Act.eval, h19, h33, go_sem]) ⟨_, rfl, Below.refl _ _, by rintro t' ⟨⟩; rfl⟩
            | n + 20, ho => simp at ho
          · intro f w6 hb6 hv'
            have h34 := hv' 34 (by decide)
            simp only [VYB] at h34
            clear hv'
            have hb7 := HB2.out.trans (hb6.mono HB2.out.size)
            unfold putAll
            simp only [List.foldl]
            simp only [h34]
            go_simp
            go_wp2_with fail
            go_roundw
            case rel => exact ⟨k + 1, by go_num, by omega, HI2, hb7⟩
            case measure => simp only [intOf]; omega
        · obtain ⟨px, P0, hpx, hp1⟩ := hpre.out (by omega)
          rw [hpx] at hok
          obtain ⟨q, hq⟩ : ∃ q, lessK px kx = q := ⟨_, rfl⟩
          have CL := Go.Lib.hid fun W => sless_c px kx q W hp1 hs1 hq
          rw [hq] at hok
          obtain ⟨j, hj⟩ : ∃ j, j = k - 1 := ⟨_, rfl⟩
          rw [← hj] at P0
          have P0 := HPB.out _ _ P0
          have hjw2 : (k : Int) - 1 = (j : Int) := by omega
          have hpos : 0 < k := by omega
          have hjw3 : IntKind.i64.wrap (j : Int) = (j : Int) := by rw [IntKind.wrap_i64]; omega
          have I2 := Go.Lib.hid (idx4 b os l.length cap j (by omega))
          have hok2 : Hid (okAt l k = q) := Go.Lib.hid (by rw [hok.out]; simp [h0])
          clear hok hpre hpx hp1 hq hs1 hs2 hj HPB
          refine wp_region_each (by kernel_rfl) (VYC b os l.length cap k j g kx px sx ax nx q) (VYC_below b os l.length cap k j g kx px sx ax nx q) (by decide +kernel) (by decide +kernel) (by rfl) [15, 16, 17, 18, 19, 20, 21, 22, 23, 24, 25, 26, 27, 28, 29, 30, 31, 32, 33, 34] (by rfl) ?_ ?_
          · intro i o ho a w6 hb6 hlen hg
            obtain ⟨y0, y1, y2, y3⟩ := pair4 (row_kept HX.out hb6)
            have p0 := (hb6.cell (p := ⟨b, os + j * 4, none⟩) hbl2).trans P0
            match i, ho with
            | 0, ho =>
              obtain rfl := Option.some.inj ho
              have h4 := given_old hg 4 (by decide +kernel)
              clear hg
              exact st_yield ho (wanted_none rfl) (.agg #[.string kx, .int .i64 ax, .int .i64 nx, .string sx]) w6 (by simp [execOp, Act.eval, h4, go_sem, y0, y1, y2, y3]) ⟨_, rfl, Below.refl _ _, by rintro t' ⟨⟩; rfl⟩
            | 1, ho =>
              obtain rfl := Option.some.inj ho
              obtain ⟨_, h15, rfl⟩ := given_fed hg 15 (by decide +kernel)
              clear hg
              exact st_enter (w1 := w6) ho (wanted_none rfl) 42 #[.agg #[.string kx, .int .i64 ax, .int .i64 nx, .string sx]] (by simp [execOp, Act.eval, h15, resolve, go_sem]) ((CO.out w6).mono (by rintro e w7 ⟨rfl, hb7⟩; exact ⟨_, rfl, _, rfl, hb7, by rintro t' ⟨⟩; rfl⟩))
            | 2, ho =>
              obtain rfl := Option.some.inj ho
              obtain ⟨_, h16, rfl⟩ := given_fed hg 16 (by decide +kernel)
              clear hg
              exact st_enter (w1 := w6) ho (wanted_none rfl) 53 #[.agg #[.string kx, .bool false, .int .i64 ax, .int .i64 nx, .string sx]] (by simp [execOp, Act.eval, h16, resolve, go_sem]) ((CM.out w6).mono (by rintro e w7 ⟨rfl, hb7⟩; exact ⟨_, rfl, _, rfl, hb7, by rintro t' ⟨⟩; rfl⟩))
            | 3, ho =>
              obtain rfl := Option.some.inj ho
              obtain ⟨_, h17, rfl⟩ := given_fed hg 17 (by decide +kernel)
              clear hg
              exact st_yield ho (wanted_none rfl) (.bool false) w6 (by simp [execOp, Act.eval, h17, go_sem]) ⟨_, rfl, Below.refl _ _, by rintro t' ⟨⟩; rfl⟩
            | 4, ho =>
              obtain rfl := Option.some.inj ho
              obtain ⟨_, h18, rfl⟩ := given_fed hg 18 (by decide +kernel)
              clear hg
              exact st_yield ho (wanted_none rfl) (.bool false) w6 (by simp [execOp, Act.eval, h18, go_sem]) ⟨_, rfl, Below.refl _ _, by rintro t' ⟨⟩; rfl⟩
            | 5, ho =>
              obtain rfl := Option.some.inj ho
              have h3 := given_old hg 3 (by decide +kernel)
              obtain ⟨_, h19, rfl⟩ := given_fed hg 19 (by decide +kernel)
              clear hg
              exact st_yield ho (wanted_some rfl rfl h19 rfl) (.int .i64 (k : Int)) w6 (by simp [execOp, Act.eval, h3, go_sem]) ⟨_, rfl, Below.refl _ _, by rintro t' ⟨⟩; rfl⟩
            | 6, ho =>
              obtain rfl := Option.some.inj ho
              obtain ⟨_, h20, rfl⟩ := given_fed hg 20 (by decide +kernel)
              obtain ⟨_, h19, rfl⟩ := given_fed hg 19 (by decide +kernel)
              clear hg
              exact st_yield ho (wanted_some rfl rfl h19 rfl) (.bool true) w6 (by simp [execOp, Act.eval, h20, go_sem, hpos]) ⟨_, rfl, Below.refl _ _, by rintro t' ⟨⟩; rfl⟩
            | 7, ho =>
              obtain rfl := Option.some.inj ho
              obtain ⟨_, h21, rfl⟩ := given_fed hg 21 (by decide +kernel)
              obtain ⟨_, h19, rfl⟩ := given_fed hg 19 (by decide +kernel)
              clear hg
              exact st_yield ho (wanted_some rfl rfl h19 rfl) (.bool true) w6 (by simp [execOp, Act.eval, h21, go_sem]) ⟨_, rfl, Below.refl _ _, by rintro t' ⟨⟩; rfl⟩
            | 8, ho =>
              obtain rfl := Option.some.inj ho
              have h0 := given_old hg 0 (by decide +kernel)
              obtain ⟨_, h22, rfl⟩ := given_fed hg 22 (by decide +kernel)
              clear hg
              exact st_yield ho (wanted_some rfl rfl h22 rfl) (.slice (some ⟨b, os, none⟩) l.length cap) w6 (by simp [execOp, Act.eval, h0, go_sem]) ⟨_, rfl, Below.refl _ _, by rintro t' ⟨⟩; rfl⟩
            | 9, ho =>
              obtain rfl := Option.some.inj ho
              have h3 := given_old hg 3 (by decide +kernel)
              obtain ⟨_, h22, rfl⟩ := given_fed hg 22 (by decide +kernel)
              clear hg
              exact st_yield ho (wanted_some rfl rfl h22 rfl) (.int .i64 (k : Int)) w6 (by simp [execOp, Act.eval, h3, go_sem]) ⟨_, rfl, Below.refl _ _, by rintro t' ⟨⟩; rfl⟩
            | 10, ho =>
              obtain rfl := Option.some.inj ho
              obtain ⟨_, h24, rfl⟩ := given_fed hg 24 (by decide +kernel)
              obtain ⟨_, h22, rfl⟩ := given_fed hg 22 (by decide +kernel)
              clear hg
              exact st_yield ho (wanted_some rfl rfl h22 rfl) (.int .i64 (j : Int)) w6 (by simp [execOp, Act.eval, h24, go_sem, hjw2, hjw3]) ⟨_, rfl, Below.refl _ _, by rintro t' ⟨⟩; rfl⟩
            | 11, ho =>
              obtain rfl := Option.some.inj ho
              obtain ⟨_, h23, rfl⟩ := given_fed hg 23 (by decide +kernel)
              obtain ⟨_, h25, rfl⟩ := given_fed hg 25 (by decide +kernel)
              obtain ⟨_, h22, rfl⟩ := given_fed hg 22 (by decide +kernel)
              clear hg
              exact st_yield ho (wanted_some rfl rfl h22 rfl) (.pointer (some ⟨b, os + j * 4, none⟩)) w6 (by simp [execOp, Act.eval, h23, h25, go_sem, I2.out w6]) ⟨_, rfl, Below.refl _ _, by rintro t' ⟨⟩; rfl⟩
            | 12, ho =>
              obtain rfl := Option.some.inj ho
              obtain ⟨_, h26, rfl⟩ := given_fed hg 26 (by decide +kernel)
              obtain ⟨_, h22, rfl⟩ := given_fed hg 22 (by decide +kernel)
              clear hg
              exact st_yield ho (wanted_some rfl rfl h22 rfl) (.pointer (some ⟨b, os + j * 4, none⟩)) w6 (by simp [execOp, Act.eval, h26, go_sem]) ⟨_, rfl, Below.refl _ _, by rintro t' ⟨⟩; rfl⟩
            | 13, ho =>
              obtain rfl := Option.some.inj ho
              obtain ⟨_, h27, rfl⟩ := given_fed hg 27 (by decide +kernel)
              obtain ⟨_, h22, rfl⟩ := given_fed hg 22 (by decide +kernel)
              clear hg
              exact st_yield ho (wanted_some rfl rfl h22 rfl) (.string px) w6 (by simp [execOp, Act.eval, h27, go_sem, p0]) ⟨_, rfl, Below.refl _ _, by rintro t' ⟨⟩; rfl⟩
            | 14, ho =>
              obtain rfl := Option.some.inj ho
              have h4 := given_old hg 4 (by decide +kernel)
              obtain ⟨_, h22, rfl⟩ := given_fed hg 22 (by decide +kernel)
              clear hg
              exact st_yield ho (wanted_some rfl rfl h22 rfl) (.pointer (some ⟨g, 0, none⟩)) w6 (by simp [execOp, Act.eval, h4, go_sem]) ⟨_, rfl, Below.refl _ _, by rintro t' ⟨⟩; rfl⟩
            | 15, ho =>
              obtain rfl := Option.some.inj ho
              obtain ⟨_, h29, rfl⟩ := given_fed hg 29 (by decide +kernel)
              obtain ⟨_, h22, rfl⟩ := given_fed hg 22 (by decide +kernel)
              clear hg
              exact st_yield ho (wanted_some rfl rfl h22 rfl) (.string kx) w6 (by simp [execOp, Act.eval, h29, go_sem, y0]) ⟨_, rfl, Below.refl _ _, by rintro t' ⟨⟩; rfl⟩
            | 16, ho =>
              obtain rfl := Option.some.inj ho
              obtain ⟨_, h28, rfl⟩ := given_fed hg 28 (by decide +kernel)
              obtain ⟨_, h30, rfl⟩ := given_fed hg 30 (by decide +kernel)
              obtain ⟨_, h22, rfl⟩ := given_fed hg 22 (by decide +kernel)
              clear hg
              exact st_enter (w1 := w6) ho (wanted_some rfl rfl h22 rfl) 19 #[.string px, .string kx] (by simp [execOp, Act.eval, h28, h30, resolve, go_sem]) ((CL.out w6).mono (by rintro e w7 ⟨rfl, hb7⟩; exact ⟨_, rfl, _, rfl, hb7, by rintro t' ⟨⟩; rfl⟩))
            | 17, ho =>
              obtain rfl := Option.some.inj ho
              obtain ⟨_, h31, rfl⟩ := given_fed hg 31 (by decide +kernel)
              obtain ⟨_, h22, rfl⟩ := given_fed hg 22 (by decide +kernel)
              clear hg
              exact st_yield ho (wanted_some rfl rfl h22 rfl) (.bool (!q)) w6 (by simp [execOp, Act.eval, h31, go_sem]) ⟨_, rfl, Below.refl _ _, by rintro t' ⟨⟩; rfl⟩
            | 18, ho =>
              obtain rfl := Option.some.inj ho
              obtain ⟨_, h22, rfl⟩ := given_fed hg 22 (by decide +kernel)
              obtain ⟨_, h32, rfl⟩ := given_fed hg 32 (by decide +kernel)
              obtain ⟨_, h19, rfl⟩ := given_fed hg 19 (by decide +kernel)
              clear hg
              exact st_yield ho (wanted_some rfl rfl h19 rfl) (.bool (!q)) w6 (by simp [execOp, Act.eval, h22, h32, go_sem]) ⟨_, rfl, Below.refl _ _, by rintro t' ⟨⟩; rfl⟩
            | 19, ho =>
              obtain rfl := Option.some.inj ho
              obtain ⟨_, h19, rfl⟩ := given_fed hg 19 (by decide +kernel)
              obtain ⟨_, h33, rfl⟩ := given_fed hg 33 (by decide +kernel)
              clear hg
              exact st_yield ho (wanted_none rfl) (.bool (!q)) w6 (by simp [execOp, Act.eval, h19, h33, go_sem]) ⟨_, rfl, Below.refl _ _, by rintro t' ⟨⟩; rfl⟩
            | n + 20, ho => simp at ho
          · intro f w6 hb6 hv'
            have h34 := hv' 34 (by decide)
            simp only [VYC] at h34
            clear hv'
            have hb7 := HB2.out.trans (hb6.mono HB2.out.size)
            unfold putAll
            simp only [List.foldl]
            simp only [h34]
            go_simp
            cases q with
            | true =>
              have HI2 : Hid (∀ j, j < k + 1 → okAt l j = true) := Go.Lib.hid fun j hj => by
                rcases Nat.lt_or_ge j k with h | h
                · exact HI.out j h
                · obtain rfl : j = k := by omega
                  exact hok2.out
              clear hno hok2 HI
              go_wp2_with fail
              go_roundw
              case rel => exact ⟨k + 1, by go_num, by omega, HI2, hb7⟩
              case measure => simp only [intOf]; omega
            | false =>
              have hf : t = false := hno.out hok2.out
              subst hf
              clear hno hok2 HI
              go_wp2_with fail
              go_ret
              exact ⟨rfl, hb7⟩
    · obtain rfl : k = l.length := by omega
      have htt : t = true := by
        rw [← HT.out, mayP_iff]
        exact ⟨HI.out, HL.out⟩
      subst htt
      clear HT HI
      go_wp2_with fail
      go_ret
      exact ⟨rfl, hb⟩

end Go.Proofs.Ytibbligidncocaa

namespace Go.Proofs.Ytibbligidncocaa
open Go.RowKit

theorem rows_ne {w : World} {B1 B2 : Nat} {e1 e2 : TypeId} {s1 s2 n1 n2 : Nat} {v1 v2 : Value} {xs1 xs2 : List Value} (h1 : w.ownsRow B1 e1 s1 v1 n1 xs1) (h2 : w.ownsRow B2 e2 s2 v2 n2 xs2) (hne : e1 ≠ e2) : v1.ownBlock = none ∨ v1.ownBlock ≠ v2.ownBlock := by
  rcases h1.2 with ⟨rfl, -⟩ | ⟨b, cap, cur, rfl, -, hg, -⟩
  · exact .inl rfl
  · refine .inr fun e => ?_
    rcases h2.2 with ⟨rfl, -⟩ | ⟨b', cap', cur', rfl, -, hg', -⟩
    · cases e
    · simp only [Value.ownBlock, Option.some.injEq] at e
      subst e
      rw [hg] at hg'
      simp only [Option.some.injEq, Obj.cells.injEq] at hg'
      exact absurd hg'.2.1 hne
theorem row_not {e t : TypeId} {w : World} {B b s n : Nat} {v : Value} {xs : List Value} {cs : Array Value} (h : w.ownsRow B e s v n xs) (hb : w.heap[b]? = some (.cells cs t)) (hne : e ≠ t) : v.ownBlock ≠ some b := by
  intro hv
  rcases h.2 with ⟨rfl, -⟩ | ⟨g, cap, cur, rfl, -, hg, -⟩
  · cases hv
  · simp only [Value.ownBlock, Option.some.injEq] at hv
    subst hv
    rw [hb] at hg
    simp only [Option.some.injEq, Obj.cells.injEq] at hg
    exact hne hg.2.1.symm

section
variable {w w' : World} {B B' b n : Nat} {u v : Value} {p : List UInt8} {e : TypeId} {xs : List Value}
/-- A row of another type stays while a *bits.Bits is written to. -/
theorem OwnV.two (h : OwnV e w B v xs) (hb : BB w B' b u p n) (he1 : e ≠ 5) (he2 : e ≠ 94) (hk : Two b u.ownBlock w w') : OwnV e w' B v xs := by
  have h1 := row_not h hb.blk he2
  have h2 := rows_ne h hb.row he1
  refine ⟨h.1, ?_⟩
  rcases h.2 with h' | ⟨g, cap, cur, e1, hB, e2, e3⟩
  · exact .inl h'
  · subst e1
    refine .inr ⟨g, cap, cur, rfl, hB, (hk.block g (Array.getElem?_eq_some_iff.1 e2).1 (fun e' => h1 (by rw [← e']; rfl)) ?_).trans e2, e3⟩
    rcases h2 with h2 | h2
    · cases h2
    · exact h2
/-- A *bits.Bits stays while a row of another type grows. -/
theorem BB.kept (h : BB w B b u p n) (hv : OwnV e w B' v xs) (he1 : e ≠ 5) (he2 : e ≠ 94) (hg : w.grownBy w' v.ownBlock) : BB w' B b u p n := by
  have h1 := row_not hv h.blk he2
  exact ⟨(hg.block b h.lt h1.symm).trans h.blk, h.row.kept hg (rows_ne h.row hv he1.symm), h.low⟩
/-- A row stays while another one of another type grows. -/
theorem OwnV.apart {e2 : TypeId} {v2 : Value} {ys : List Value} (h : OwnV e w B v xs) (h2 : OwnV e2 w B' v2 ys) (hne : e ≠ e2) (hg : w.grownBy w' v2.ownBlock) : OwnV e w' B v xs := OwnV.kept h hg (rows_ne h h2 hne)
end

/-- A slice of whole numbers that came in. -/
theorem rv_of_row {k : IntKind} {w : World} {a : Option Addr} {len cap : Nat} {zs : List Int} (h : (a = none ∧ len = 0 ∧ cap = 0 ∧ zs = []) ∨
    ∃ x, a = some x ∧ len ≤ cap ∧ cap ≤ maxLen ∧ zs.length = cap ∧ (∀ i, i < zs.length → w.cell? (x.add i) = some (.int k (zs.getD i 0))) ∧ ∀ n ∈ zs, (Lit.int k n).wf = true) :
    ∃ Z : List Int, Z.length = len ∧ RV w (.slice a len cap) (Z.map (Value.int k)) ∧ len ≤ 9223372036854775807 ∧ ∀ z ∈ Z, (Lit.int k z).wf = true := by
  rcases h with ⟨rfl, rfl, rfl, rfl⟩ | ⟨x, rfl, hl, hmx, hz, hc, hw⟩
  · exact ⟨[], rfl, ⟨none, 0, rfl, Nat.le_refl _, by simp [maxLen], fun _ => rfl, fun h => absurd rfl h⟩, by omega, by simp⟩
  · have hlen : (zs.take len).length = len := by rw [List.length_take]; omega
    refine ⟨zs.take len, hlen, ⟨some x, cap, by rw [List.length_map, hlen], by rw [List.length_map, hlen]; exact hl, hmx, (fun h => by cases h), fun hne => ?_⟩, by unfold maxLen at hmx; omega, fun z hz => hw z (List.mem_of_mem_take hz)⟩
    have hpos : 0 < len := by
      rcases Nat.eq_zero_or_pos len with h0 | h0
      · subst h0; simp at hne
      · exact h0
    obtain ⟨b, o, spot⟩ := x
    have hspot : spot = none := by simpa [Addr.add] using World.cell?_spot (hc 0 (by omega))
    subst hspot
    refine ⟨b, o, rfl, fun i hi => ?_⟩
    rw [List.length_map, hlen] at hi
    have h1 := hc i (by omega)
    have hadd : (⟨b, o, none⟩ : Addr).add i = ⟨b, o + i, none⟩ := by unfold Addr.add; split <;> simp_all
    rw [hadd] at h1
    rw [h1]
    have hi' : i < zs.length := by omega
    simp [List.getD_eq_getElem?_getD, List.getElem?_eq_getElem hi']

end Go.Proofs.Ytibbligidncocaa
