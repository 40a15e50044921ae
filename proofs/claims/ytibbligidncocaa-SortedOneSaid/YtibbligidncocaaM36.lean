/-
  Stage 22: sorted.New.
-/
import Derived.Test.YtibbligidncocaaM34
import Derived.Test.YtibbligidncocaaM24
import Derived.Test.YtibbligidncocaaM33
import Derived.Test.YtibbligidncocaaM35
import Derived.Test.YtibbligidncocaaM15
namespace Go.Proofs.Ytibbligidncocaa
open Go.RowKit

/-- What New comes to. -/
def NewSTo (P : List RecT) (w0 : World) (e : Ending) (w' : World) : Prop :=
  Below w0.heap.size w0 w' ∧ ((mayP P = true ∧ ∃ p, e = .returned (.tuple #[.pointer (some ⟨p, 0, none⟩), .int .i64 0]) ∧ SW w' w0.heap.size p P) ∨ (mayP P = false ∧ e = .returned (.tuple #[.pointer none, .int .i64 1])))
theorem build_store (a : Option Addr) (n c : Nat) (W : World) : (Instr.build 66 #[(0, .slice a n c)]).run Try.prog W = .ok (.agg #[.slice a n c, .slice none 0 0, .pointer none]) W :=
  run_build W _ _ _ (by kernel_rfl)
theorem K4.row1 {w : World} {g : Nat} {x : RecT} {t : TypeId} {fr : Nat × Nat} (h : w.heap[g]? = some (.cells (pc4 x).toArray t fr)) : K4.R w (.slice (some ⟨g, 0, none⟩) 1 1) [x] := by
  refine ⟨some ⟨g, 0, none⟩, 1, rfl, Nat.le_refl _, by simp [maxLen], (fun h => by cases h), fun _ => ⟨g, 0, rfl, fun j u hj => ?_⟩⟩
  rw [cell_of_row _ g (0 + j) _ _ _ h, Nat.zero_add, List.getElem?_toArray]
  rw [Lay.flat_cons, Lay.flat_nil, List.append_nil] at hj
  exact hj
theorem Lay.O.setT {α : Type} {K : Lay α} {w : World} {B : Nat} {v : Value} {l : List α} (h : K.O w B v l) {p : Nat} {cs : Array Value} {t : TypeId} {fr : Nat × Nat} (hp : w.heap[p]? = some (.cells cs t fr)) (hne : t ≠ K.elem) (o : Nat) (u : Value) : K.O (w.setCell ⟨p, o, none⟩ u) B v l :=
  h.same fun g cs' hg _ _ => Below.heap_setCell _ _ _ _ (by rintro rfl; rw [hp] at hg; simp only [Option.some.injEq, Obj.cells.injEq] at hg; exact hne hg.2.1)

theorem Lay.O.slice {α : Type} {K : Lay α} {w : World} {B : Nat} {v : Value} {l : List α} (h : K.O w B v l) : ∃ a n c, v = .slice a n c := by
  obtain ⟨a, c, e, -⟩ := h.r.form
  exact ⟨a, _, c, e⟩
/-- A Store in the making: its pairs, where each hash begins, the hashes. -/
structure NI (w : World) (g p : Nat) (u us hv : Value) (P : List RecT) (S Hs : List Nat) : Prop where
  gp : g ≤ p
  row : w.heap[p]? = some (.cells #[u, us, .pointer none] 66 (0, 0))
  own : K4.O w g u P
  starts : KN.O w g us S
  hs : KU.O w g hv Hs
section
variable {w w' : World} {g p : Nat} {u us hv : Value} {P : List RecT} {S Hs : List Nat}
theorem NI.lt (h : NI w g p u us hv P S Hs) : p < w.heap.size := (Array.getElem?_eq_some_iff.1 h.row).1
theorem NI.below (h : NI w g p u us hv P S Hs) (hb : Below w.heap.size w w') : NI w' g p u us hv P S Hs := ⟨h.gp, (hb.block p h.lt).trans h.row, h.own.below hb, h.starts.below hb, h.hs.below hb⟩
theorem NI.drew (h : NI w g p u us hv P S Hs) : NI w.drew g p u us hv P S Hs := ⟨h.gp, h.row, h.own.drew, h.starts.drew, h.hs.drew⟩
theorem NI.pu (h : NI w g p u us hv P S Hs) : u.ownBlock ≠ some p := row_not h.own h.row (by decide)
theorem NI.cells (h : NI w g p u us hv P S Hs) : w.cell? ⟨p, 0, none⟩ = some u ∧ w.cell? ⟨p, 1, none⟩ = some us ∧ w.cell? ⟨p, 2, none⟩ = some (.pointer none) := by
  have c := fun j => cell_of_row w p j _ _ _ h.row
  exact ⟨c 0, c 1, c 2⟩
theorem NI.hashes (h : NI w g p u us hv P S Hs) {hv' : Value} {Hs' : List Nat} (hg : w.grownBy w' hv.ownBlock) (ho : KU.O w' g hv' Hs') : NI w' g p u us hv' P S Hs' :=
  ⟨h.gp, (hg.block p h.lt (fun e => row_not h.hs h.row (by decide) e.symm)).trans h.row, h.own.kept hg (rows_ne h.own h.hs (by decide)), h.starts.kept hg (rows_ne h.starts h.hs (by decide)), ho⟩
theorem NI.startsS (h : NI w g p u us hv P S Hs) {us' : Value} {S' : List Nat} (hg : w.grownBy w' us.ownBlock) (ho : KN.O w' g us' S') : NI (w'.setCell ⟨p, 1, none⟩ us') g p u us' hv P S' Hs := by
  have hp : w'.heap[p]? = some (.cells #[u, us, .pointer none] 66 (0, 0)) := (hg.block p h.lt (fun e => row_not h.starts h.row (by decide) e.symm)).trans h.row
  exact ⟨h.gp, by rw [heap_set hp]; rfl, (h.own.kept hg (rows_ne h.own h.starts (by decide))).setT hp (by decide) _ _, ho.setT hp (by decide) _ _, (h.hs.kept hg (rows_ne h.hs h.starts (by decide))).setT hp (by decide) _ _⟩
theorem NI.pairsS (h : NI w g p u us hv P S Hs) {u' : Value} {P' : List RecT} (hg : w.grownBy w' u.ownBlock) (ho : K4.O w' g u' P') : NI (w'.setCell ⟨p, 0, none⟩ u') g p u' us hv P' S Hs := by
  have hp : w'.heap[p]? = some (.cells #[u, us, .pointer none] 66 (0, 0)) := (hg.block p h.lt (fun e => h.pu e.symm)).trans h.row
  exact ⟨h.gp, by rw [heap_set hp]; rfl, ho.setT hp (by decide) _ _, (h.starts.kept hg (rows_ne h.starts h.own (by decide))).setT hp (by decide) _ _, (h.hs.kept hg (rows_ne h.hs h.own (by decide))).setT hp (by decide) _ _⟩
/-- The tree is stored: it is a Store. -/
theorem NI.done (h : NI w g p u us hv P (startsG hR P) Hs) {b : Nat} {ub : Value} (ht : BT w g b ub (treeL 64 (hashesG hR P))) (hm : mayP P = true) : SW (w.setCell ⟨p, 2, none⟩ (.pointer (some ⟨b, 0, none⟩))) g p P := by
  have hbp : b ≠ p := by
    rintro rfl
    have h1 := ht.blk
    rw [h.row] at h1
    simp only [Option.some.injEq, Obj.cells.injEq] at h1
    exact absurd h1.2.1 (by decide)
  have hg : w.grownBy (w.setCell ⟨p, 2, none⟩ (.pointer (some ⟨b, 0, none⟩))) (some p) := ⟨rfl, rfl, rfl, by simp [World.setCell], fun k _ hn => Below.heap_setCell _ _ _ _ (fun e => hn (by rw [e]))⟩
  refine ⟨u, us, b, ub, h.gp, by rw [heap_set h.row]; rfl, h.own.setT h.row (by decide) _ _, h.starts.setT h.row (by decide) _ _, ⟨(Below.heap_setCell _ _ _ _ hbp).trans ht.blk, World.ownsRow.kept ht.row hg (.inr (own_not ht.row h.row (by decide))), ht.low⟩, hm⟩
end

/-- Within 's.pairs = append(s.pairs, fresh.Pair(p))'. -/
def I12 (w0 : World) (B p : Nat) (v1 : Value) (M : List RecT) (done : Nat → Bool) (_a : Act) (w : World) : Prop :=
  (done 8 = false → Below w0.heap.size w0 w) ∧ (done 8 = true → done 11 = false → w0.grownBy w v1.ownBlock) ∧
  (done 11 = true → ∃ w1 v', w = w1.setCell ⟨p, 0, none⟩ v' ∧ w0.grownBy w1 v1.ownBlock ∧ K4.O w1 B v' M)
section
variable {w0 w w' : World} {B p : Nat} {v1 : Value} {M : List RecT} {done : Nat → Bool} {a a' : Act}
theorem I12.start (w0 : World) (B p : Nat) (v1 : Value) (M : List RecT) (a : Act) : I12 w0 B p v1 M (fun _ => false) a w0 := ⟨fun _ => Below.refl _ _, fun h => absurd h (by simp), fun h => absurd h (by simp)⟩
theorem I12.keep (h : I12 w0 B p v1 M done a w) {i : Nat} (h8 : 8 ≠ i) (h11 : 11 ≠ i) : I12 w0 B p v1 M (doneToo done i) a' w := by
  unfold I12
  rw [doneToo_other h8, doneToo_other h11]
  exact h
theorem I12.more (h : I12 w0 B p v1 M done a w) {i : Nat} (h8 : 8 ≠ i) (h11 : 11 ≠ i) (n8 : done 8 = false) (n11 : done 11 = false) (hb : Below w.heap.size w w') : I12 w0 B p v1 M (doneToo done i) a' w' := by
  unfold I12
  rw [doneToo_other h8, doneToo_other h11]
  have h1 := h.1 n8
  exact ⟨fun _ => h1.trans (hb.mono h1.size), fun e => absurd (n8.symm.trans e) (by simp), fun e => absurd (n11.symm.trans e) (by simp)⟩
theorem I12.grown (h : I12 w0 B p v1 M done a w) (n8 : done 8 = false) (n11 : done 11 = false) (hg : w.grownBy w' v1.ownBlock) : I12 w0 B p v1 M (doneToo done 8) a' w' := by
  have h1 := h.1 n8
  refine ⟨fun e => absurd ((doneToo_self done 8).symm.trans e) (by simp), fun _ _ => ?_, fun e => absurd ((doneToo_other (done := done) (i := 8) (j := 11) (by decide)).symm.trans e |>.symm.trans n11) (by simp)⟩
  exact ⟨hg.os.trans h1.os, hg.tape.trans h1.tape, hg.output.trans h1.output, Nat.le_trans h1.size hg.size, fun k hk hn => (hg.block k (Nat.lt_of_lt_of_le hk h1.size) hn).trans (h1.block k hk)⟩
theorem I12.stored (h : I12 w0 B p v1 M done a w) (d8 : done 8 = true) (n11 : done 11 = false) {v' : Value} (ho : K4.O w B v' M) : I12 w0 B p v1 M (doneToo done 11) a' (w.setCell ⟨p, 0, none⟩ v') :=
  ⟨fun e => absurd ((doneToo_other (done := done) (i := 11) (j := 8) (by decide)).symm.trans e |>.symm.trans d8) (by simp), fun _ e => absurd ((doneToo_self done 11).symm.trans e) (by simp), fun _ => ⟨w, v', rfl, h.2.1 d8 n11, ho⟩⟩
end
def VNs (p B : Nat) (v1 : Value) (x : RecT) (M : List RecT) : Nat → World → Value → Prop
  | 53, _, v => v = .pointer (some ⟨p, 0, none⟩)
  | 54, _, v => v = .pointer (some ⟨p, 0, none⟩)
  | 55, _, v => v = .pointer (some ⟨p, 0, none⟩)
  | 56, _, v => v = .pointer (some ⟨p, 0, none⟩)
  | 57, _, v => v = v1
  | 58, _, v => v = .agg (pc4 x).toArray
  | 59, _, v => v = .agg (pc4 x).toArray
  | 60, w, v => ∃ g, v = .slice (some ⟨g, 0, none⟩) 1 1 ∧ w.heap[g]? = some (.cells (pc4 x).toArray 42 (0, 0)) ∧ v1.ownBlock ≠ some g
  | 61, w, v => K4.O w B v M
  | 62, _, v => v = .pointer (some ⟨p, 0, none⟩)
  | 63, _, v => v = .pointer (some ⟨p, 0, none⟩)
  | _, _, _ => True
theorem VNs_below (p B : Nat) (v1 : Value) (x : RecT) (M : List RecT) : ∀ (i : Nat) (w w' : World) (v : Value), VNs p B v1 x M i w v → Below w.heap.size w w' → VNs p B v1 x M i w' v := by
  intro i w w' v h hb
  unfold VNs at h ⊢
  split at h <;> first | exact h | trivial | exact (let ⟨g, h1, h2, h3⟩ := h; ⟨g, h1, (hb.block g (Array.getElem?_eq_some_iff.1 h2).1).trans h2, h3⟩) | exact h.below hb
theorem VNs_grown (p B : Nat) (v1 : Value) (x : RecT) (M : List RecT) : ∀ (i : Nat) (w w' : World) (v : Value), i ≠ 61 → w.grownBy w' v1.ownBlock → VNs p B v1 x M i w v → VNs p B v1 x M i w' v := by
  intro i w w' v hi hg h
  unfold VNs at h ⊢
  split at h <;> first | exact absurd rfl hi | exact h | trivial | exact (let ⟨g, h1, h2, h3⟩ := h; ⟨g, h1, (hg.block g (Array.getElem?_eq_some_iff.1 h2).1 (fun e => h3 e.symm)).trans h2, h3⟩)
theorem VNs_set (p B : Nat) (v1 : Value) (x : RecT) (M : List RecT) (w : World) {cs : Array Value} {fr : Nat × Nat} (hp : w.heap[p]? = some (.cells cs 66 fr)) (u : Value) : ∀ (i : Nat) (v : Value), VNs p B v1 x M i w v → VNs p B v1 x M i (w.setCell ⟨p, 0, none⟩ u) v := by
  intro i v h
  unfold VNs at h ⊢
  split at h <;> first
    | exact h
    | trivial
    | exact (let ⟨g, h1, h2, h3⟩ := h; ⟨g, h1, (Below.heap_setCell _ _ _ _ (by rintro rfl; rw [hp] at h2; simp only [Option.some.injEq, Obj.cells.injEq] at h2; exact absurd h2.2.1 (by decide))).trans h2, h3⟩)
    | exact h.setT hp (by decide) _ _

set_option maxHeartbeats 8000000 in
set_option maxRecDepth 100000 in
theorem snew_c (v : Value) (P : List RecT) (w : World) (h : K4.R w v P) (hs : SmallV P) (hl : P.length ≤ 1000000) :
    Calls Try.prog 13 #[v] w fun e w' => NewSTo P w e w' := by
  have CM := Go.Lib.hid fun t ht => smay_c v P t w h hs hl ht
  obtain ⟨a, cap, rfl, hmx⟩ := h.form
  by_cases hm : mayP P = true
  case neg =>
    have hm : mayP P = false := by simpa using hm
    have CM := Go.Lib.hid (CM.out false hm)
    have HF := Go.Lib.hid (fun (W : World) (hb : Below w.heap.size w W) => show NewSTo P w (.returned (.tuple #[.pointer none, .int .i64 1])) W from ⟨hb, .inr ⟨hm, rfl⟩⟩)
    clear h hs hm
    go_enter Try.func13, Try.ntmps13
    go_wp2_with fail
    refine CM.out.mono ?_
    rintro e w1 ⟨rfl, hb⟩
    have HF := Go.Lib.hid (HF.out w1 hb)
    clear hb CM
    go_wp2_with fail
    go_ret2
    exact HF.out
  case pos =>
    have CM := Go.Lib.hid (CM.out true hm)
    have hL := mayP_len hm
    have HSZ := Go.Lib.hid (mayP_sizes hm)
    have HMAY := Go.Lib.hid hm
    have HRI := Go.Lib.hid (hashesG_rise hR P (mayP_rise hm)).1
    have HRP := Go.Lib.hid (show ∀ W, Below w.heap.size w W → K4.R W (.slice a P.length cap) P from fun W hb => h.below hb)
    have HH64 := Go.Lib.hid (hashesG_64 P)
    clear h hs hm
    obtain ⟨g, hg⟩ : ∃ g, g = w.heap.size := ⟨_, rfl⟩
    have HG := Go.Lib.hid hg
    rw [← hg] at HRP
    clear hg
    have hbd := build_store
    go_enter Try.func13, Try.ntmps13
    go_wp2_with fail
    refine CM.out.mono ?_
    rintro e w1 ⟨rfl, hb⟩
    have HB1 := Go.Lib.hid (show Below g w w1 by rw [HG.out]; exact hb)
    clear hb CM
    go_upto_region 4 with (first
      | (with_reducible show wpList _ _ _ (⟨some 14, _, _, _, _, _⟩ :: _) _ _; go_loud (refine K4_ok.make0 rfl (.const (.int .i64 0)) (.tmp 13) rfl .i64 _ P.length rfl rfl rfl (by omega) ?_); intro g5 w5 ho5 hg5 hgr5; clear hg5)
      | fail)
    have hgw1 : g ≤ w1.heap.size := by have := HB1.out.size; have := HG.out; omega
    have hb5 : Below g w w5 := HB1.out.grown hgr5 hgw1 (fun k hk => by cases hk)
    have hgw5 : g ≤ w5.heap.size := by have := hgr5.size; omega
    have hbA := below_one w5 (.cells #[.slice (some ⟨g5, 0, none⟩) 0 P.length, .slice none 0 0, .pointer none] 66)
    have HB6 := Go.Lib.hid (hb5.trans (hbA.mono hgw5))
    have HN6 := Go.Lib.hid (show NI _ g w5.heap.size (.slice (some ⟨g5, 0, none⟩) 0 P.length) (.slice none 0 0) (.slice none 0 0) (P.take 0) (startsG hR (P.take 0)) (hashesG hR (P.take 0)) from ⟨hgw5, heap_alloc_new w5 (.cells #[.slice (some ⟨g5, 0, none⟩) 0 P.length, .slice none 0 0, .pointer none] 66), (ho5.mono hgw1).below hbA, Lay.O.nil _ _, Lay.O.nil _ _⟩)
    clear hb5 hgw5 hgw1 hbA ho5 hgr5 HB1
    obtain ⟨p, hp⟩ : ∃ p, p = w5.heap.size := ⟨_, rfl⟩
    rw [← hp] at HN6 ⊢
    clear hp
    generalize w5.alloc (.cells #[.slice (some ⟨g5, 0, none⟩) 0 P.length, .slice none 0 0, .pointer none] 66) = w6 at *
    clear hbd
    go_wp2_with fail
    go_loopw [5, 19] (fun hv' kv wr => ∃ (k : Nat) (hv u us : Value), hv = hv' ∧ k ≤ P.length ∧ kv = .int .i64 (k : Int) ∧ Hid (NI wr g p u us hv (P.take k) (startsG hR (P.take k)) (hashesG hR (P.take k))) ∧ Hid (Below g w wr)) (fun _ kv _ => P.length - (intOf kv).toNat)
    case atStart => exact ⟨0, _, _, _, rfl, by omega, rfl, HN6, HB6⟩
    case round =>
      clear HN6 HB6
      obtain ⟨k, hv, u, us, rfl, hk, rfl, HN, HB⟩ := hrel
      by_cases hlt : k < P.length
      · obtain ⟨bb, o, rfl, -, -, c0, c1, c2, c3⟩ := K4.at' (HRP.out _ HB.out) k hlt
        have hix := idx4 bb o P.length cap k hlt
        have hsz := HSZ.out _ (List.getElem_mem hlt)
        have HT := Go.Lib.hid (List.take_succ_eq_append_getElem hlt)
        have HS1 := Go.Lib.hid (startsG_snoc hR (P.take k) P[k])
        have HH1 := Go.Lib.hid (show hashesG hR (P.take k ++ [P[k]]) = if (hashesG hR (P.take k)).getLast? = some (hR P[k]) then hashesG hR (P.take k) else hashesG hR (P.take k) ++ [hR P[k]] from hashesG_snoc hR (P.take k) P[k])
        rw [← HT.out] at HS1 HH1
        have HTL := Go.Lib.hid (show (P.take k).length = k by rw [List.length_take]; omega)
        rw [HTL.out] at HS1
        obtain ⟨ua, uc, hu, -⟩ := HN.out.own.r.form
        rw [HTL.out] at hu
        subst hu
        have HHL := Go.Lib.hid (show (hashesG hR (P.take k)).length ≤ k by have := hashesG_length hR (P.take k); rw [HTL.out] at this; exact this)
        have HSL := Go.Lib.hid (show (startsG hR (P.take k)).length ≤ k by rw [startsG_length]; exact HHL.out)
        have HK0 := Go.Lib.hid (show 0 < k → hashesG hR (P.take k) ≠ [] from fun h0 e => by
          have hx : P[0] ∈ P.take k := List.mem_take_iff_getElem.2 ⟨0, by omega, rfl⟩
          have := (hashesG_rise hR (P.take k) ((mayP_rise HMAY.out).sublist (List.take_sublist k P))).2.1 (hR P[0])
          rw [e] at this
          exact absurd (this.2 ⟨_, hx, rfl⟩) (by simp))
        have HH6 := Go.Lib.hid (hashesG_64 (P.take k))
        generalize P[k] = x at *
        obtain ⟨kx, gx, ax, nx, sx⟩ := x
        simp only [] at c0 c1 c2 c3 hsz
        have CFR := Go.Lib.hid fun W => fpair_c kx ax nx sx W (by omega) (by omega)
        obtain ⟨hx, hhx⟩ : ∃ hx, hashS kx = hx := ⟨_, rfl⟩
        have CH := Go.Lib.hid fun W => hof_k kx hx hhx W (by omega)
        have hRx : hR (kx, gx, ax, nx, sx) = hx := hhx
        rw [hRx] at HS1 HH1
        have hgw : g ≤ wr.heap.size := by have := HB.out.size; have := HG.out; omega
        have hbA := below_one wr (.cells #[.string kx, .int .i64 ax, .int .i64 nx, .string sx] 42)
        have HX4 := Go.Lib.hid (heap_alloc_new wr (.cells #[.string kx, .int .i64 ax, .int .i64 nx, .string sx] 42))
        have HN4 := Go.Lib.hid (HN.out.below hbA)
        have HB4 := Go.Lib.hid (HB.out.trans (hbA.mono hgw))
        clear hbA hsz HN HB hgw hhx hRx
        obtain ⟨S1, hS1⟩ : ∃ S, S = startsG hR (P.take (k + 1)) := ⟨_, rfl⟩
        obtain ⟨H1, hH1⟩ : ∃ S, S = hashesG hR (P.take (k + 1)) := ⟨_, rfl⟩
        rw [← hS1] at HS1
        rw [← hH1] at HH1
        have ES := Go.Lib.hid hS1
        have EH := Go.Lib.hid hH1
        clear hS1 hH1
        generalize startsG hR (P.take k) = S0 at *
        generalize hashesG hR (P.take k) = H0 at *
        go_upto_region 8 with (fail)
        obtain ⟨g3, hg3⟩ : ∃ g, g = wr.heap.size := ⟨_, rfl⟩
        rw [← hg3] at HX4 ⊢
        clear hg3 c0 c1 c2 c3 hix
        generalize wr.alloc (.cells #[.string kx, .int .i64 ax, .int .i64 nx, .string sx] 42) = w4 at *
        obtain ⟨y0, y1, y2, y3⟩ := pair4 HX4.out
        go_wp2_with fail
        refine (CH.out _).mono ?_
        rintro e w7 ⟨rfl, hc⟩
        have hgw : g ≤ w4.heap.size := by have := HB4.out.size; have := HG.out; omega
        have HX7 := Go.Lib.hid (row_kept HX4.out hc)
        have HN7 := Go.Lib.hid (HN4.out.below hc)
        have HB7 := Go.Lib.hid (HB4.out.trans (hc.mono hgw))
        clear hc CH HX4 HN4 HB4 hgw y0 y1 y2 y3
        by_cases hsame : H0.getLast? = some hx
        · rw [if_pos hsame] at HS1 HH1
          have hk0 : 0 < k := by
            rcases Nat.eq_zero_or_pos k with h | h
            · have : H0 = [] := List.eq_nil_of_length_eq_zero (by have := HHL.out; omega)
              rw [this] at hsame; cases hsame
            · exact h
          have hkI : ((k : Int) == 0) = false := by rw [beq_eq_false_iff_ne]; omega
          obtain ⟨m, hm⟩ : ∃ m, H0.length = m + 1 := ⟨H0.length - 1, by have := List.length_pos_iff.2 (HK0.out hk0); omega⟩
          have hlast : H0[m]'(by omega) = hx := by
            rw [List.getLast?_eq_getElem?, hm, Nat.add_sub_cancel, List.getElem?_eq_getElem (by omega)] at hsame
            exact Option.some.inj hsame
          have hm1 : m ≤ 1000 := by have := HHL.out; omega
          obtain ⟨av, ch, rfl, -⟩ := HN7.out.hs.r.form
          obtain ⟨bh, oh, rfl, -, -, z0⟩ := KU.at' HN7.out.hs.r m (by omega)
          rw [hlast] at z0
          have hi1 := idxU bh oh H0.length ch m (by omega)
          rw [hm] at hi1
          have hmI : ((m + 1 : Nat) : Int) - 1 = (m : Int) := by omega
          have HM := Go.Lib.hid hm
          have hnn : ((hx : Int) != (hx : Int)) = false := by simp
          have HN9 := Go.Lib.hid (show NI w7 g p (.slice ua k uc) us (.slice (some ⟨bh, oh, none⟩) H0.length ch) (P.take k) S1 H1 by rw [HS1.out, HH1.out]; exact HN7.out)
          rw [hm] at HN9 ⊢
          clear HN7 HK0 hm hlast hsame HS1 HH1 HHL HSL
          go_upto_region 12 with (fail)
          clear hi1 z0
          obtain ⟨w9, hw9⟩ : ∃ w9, w9 = w7 := ⟨_, rfl⟩
          rw [← hw9] at HN9 HB7 HX7 ⊢
          clear hw9
          refine wp_region_inv3 (by kernel_rfl) (VNs p g (.slice ua k uc) (kx, gx, ax, nx, sx) (P.take k ++ [(kx, gx, ax, nx, sx)])) (I12 w9.drew g p (.slice ua k uc) (P.take k ++ [(kx, gx, ax, nx, sx)])) (by decide +kernel) (by decide +kernel) (by rfl) [53, 54, 55, 56, 57, 58, 59, 60, 61, 62, 63] (by rfl) (I12.start _ _ _ _ _ _) ?_ ?_
          · intro i o ho a6 w6 done hI hnot hr hsh hlen hg
            match i, ho with
            | 0, ho =>
              obtain rfl := Option.some.inj ho
              have h4 := given_old hg 4 (by decide +kernel)
              clear hg
              exact st_yield ho (wanted_none rfl) (.pointer (some ⟨p, 0, none⟩)) w6 (by simp [execOp, Act.eval, h4, go_sem]) ⟨_, rfl, hI.keep (by decide) (by decide), fun _ _ _ h => h, by rintro t' ⟨⟩; rfl⟩
            | 1, ho =>
              obtain rfl := Option.some.inj ho
              have h4 := given_old hg 4 (by decide +kernel)
              clear hg
              exact st_yield ho (wanted_none rfl) (.pointer (some ⟨p, 0, none⟩)) w6 (by simp [execOp, Act.eval, h4, go_sem]) ⟨_, rfl, hI.keep (by decide) (by decide), fun _ _ _ h => h, by rintro t' ⟨⟩; rfl⟩
            | 2, ho =>
              obtain rfl := Option.some.inj ho
              obtain ⟨_, h54, rfl⟩ := given_fed hg 54 (by decide +kernel)
              clear hg
              exact st_yield ho (wanted_none rfl) (.pointer (some ⟨p, 0, none⟩)) w6 (by simp [execOp, Act.eval, h54, go_sem]) ⟨_, rfl, hI.keep (by decide) (by decide), fun _ _ _ h => h, by rintro t' ⟨⟩; rfl⟩
            | 3, ho =>
              obtain rfl := Option.some.inj ho
              obtain ⟨_, h55, rfl⟩ := given_fed hg 55 (by decide +kernel)
              clear hg
              exact st_yield ho (wanted_none rfl) (.pointer (some ⟨p, 0, none⟩)) w6 (by simp [execOp, Act.eval, h55, go_sem]) ⟨_, rfl, hI.keep (by decide) (by decide), fun _ _ _ h => h, by rintro t' ⟨⟩; rfl⟩
            | 4, ho =>
              obtain rfl := Option.some.inj ho
              obtain ⟨_, h56, rfl⟩ := given_fed hg 56 (by decide +kernel)
              clear hg
              have n8 : done 8 = false := by cases h : done 8 with | false => rfl | true => have := hsh 8 4 h (by decide +kernel); rw [hnot] at this; cases this
              have x1 : w6.cell? ⟨p, 0, none⟩ = some (.slice ua k uc) := by rw [cell_of_row w6 p 0 _ _ _ (((hI.1 n8).block p HN9.out.lt).trans HN9.out.row)]; rfl
              exact st_yield ho (wanted_none rfl) (.slice ua k uc) w6 (by simp [execOp, Act.eval, h56, go_sem, x1]) ⟨_, rfl, hI.keep (by decide) (by decide), fun _ _ _ h => h, by rintro t' ⟨⟩; rfl⟩
            | 5, ho =>
              obtain rfl := Option.some.inj ho
              have h7 := given_old hg 7 (by decide +kernel)
              clear hg
              have n8 : done 8 = false := by cases h : done 8 with | false => rfl | true => have := hsh 8 5 h (by decide +kernel); rw [hnot] at this; cases this
              obtain ⟨y0, y1, y2, y3⟩ := pair4 (((hI.1 n8).block g3 (Array.getElem?_eq_some_iff.1 HX7.out).1).trans HX7.out)
              exact st_yield ho (wanted_none rfl) (.agg #[.string kx, .int .i64 ax, .int .i64 nx, .string sx]) w6 (by simp [execOp, Act.eval, h7, go_sem, y0, y1, y2, y3]) ⟨_, rfl, hI.keep (by decide) (by decide), fun _ _ _ h => h, by rintro t' ⟨⟩; rfl⟩
            | 6, ho =>
              obtain rfl := Option.some.inj ho
              obtain ⟨_, h58, rfl⟩ := given_fed hg 58 (by decide +kernel)
              clear hg
              have n8 : done 8 = false := by cases h : done 8 with | false => rfl | true => have := hsh 8 6 h (by decide +kernel); rw [hnot] at this; cases this
              have n11 : done 11 = false := by cases h : done 11 with | false => rfl | true => have := hsh 11 6 h (by decide +kernel); rw [hnot] at this; cases this
              exact st_enter (w1 := w6) ho (wanted_none rfl) 35 #[.agg #[.string kx, .int .i64 ax, .int .i64 nx, .string sx]] (by simp [execOp, Act.eval, h58, pc4, resolve, go_sem]) ((CFR.out w6).mono (by rintro e wz ⟨rfl, hb7⟩; exact ⟨_, rfl, _, rfl, hI.more (by decide) (by decide) n8 n11 hb7, fun t z _ h => VNs_below p g (.slice ua k uc) (kx, gx, ax, nx, sx) (P.take k ++ [(kx, gx, ax, nx, sx)]) t _ _ z h hb7, by rintro t' ⟨⟩; rfl⟩))
            | 7, ho =>
              obtain rfl := Option.some.inj ho
              obtain ⟨_, h59, rfl⟩ := given_fed hg 59 (by decide +kernel)
              clear hg
              have n8 : done 8 = false := by cases h : done 8 with | false => rfl | true => have := hsh 8 7 h (by decide +kernel); rw [hnot] at this; cases this
              have n11 : done 11 = false := by cases h : done 11 with | false => rfl | true => have := hsh 11 7 h (by decide +kernel); rw [hnot] at this; cases this
              have hb7 : Below w6.heap.size w6 (w6.alloc (.cells (pc4 (kx, gx, ax, nx, sx)).toArray 42)) := (Below.refl _ _).alloc (Nat.le_refl _) _
              have hvl := fun q (hq : Value.ownBlock (.slice ua k uc) = some q) => (World.ownsRow.lt HN9.out.own q hq).2
              have hsz := (hI.1 n8).size
              exact st_yield ho (wanted_none rfl) (.slice (some ⟨w6.heap.size, 0, none⟩) 1 1) (w6.alloc (.cells (pc4 (kx, gx, ax, nx, sx)).toArray 42)) (by simp [execOp, Act.eval, h59, pc4, go_sem]) ⟨_, rfl, hI.more (by decide) (by decide) n8 n11 hb7, fun t z _ h => VNs_below p g (.slice ua k uc) (kx, gx, ax, nx, sx) (P.take k ++ [(kx, gx, ax, nx, sx)]) t _ _ z h hb7, by rintro t' ⟨⟩; exact ⟨w6.heap.size, rfl, heap_alloc_new w6 _, fun e => by have := hvl _ e; simp at hsz; omega⟩⟩
            | 8, ho =>
              obtain rfl := Option.some.inj ho
              obtain ⟨_, h57, rfl⟩ := given_fed hg 57 (by decide +kernel)
              obtain ⟨v60, h60, p60⟩ := given_fed hg 60 (by decide +kernel)
              clear hg
              have n11 : done 11 = false := by cases h : done 11 with | false => rfl | true => have := hsh 11 8 h (by decide +kernel); rw [hnot] at this; cases this
              have hb6 := hI.1 hnot
              obtain ⟨q, rfl, hg60, hne60⟩ := p60
              have hown : K4.O w6 g (.slice ua k uc) (P.take k) := Lay.O.below (w := w9.drew) HN9.out.own.drew hb6
              refine st_list ho (wanted_none rfl) (fun Q' hQ => ?_)
              refine K4_ok.append rfl (.tmp 57) (.tmp 60) rfl g (.slice ua k uc) (.slice (some ⟨q, 0, none⟩) 1 1) (P.take k) [(kx, gx, ax, nx, sx)] (by simp [Act.eval, h57]) (by simp [Act.eval, h60]) hown (K4.row1 hg60) (by simp; omega) (by have h1 := HB7.out.size; have h2 := HG.out; have := hb6.size; simp at this; omega) ?_
              intro v7 w8 ho7 hg7
              refine wpList_nil (hQ _ _ ⟨v7, rfl, hI.grown hnot n11 hg7, fun t z hw hV => ?_, ?_⟩)
              · exact VNs_grown p g (.slice ua k uc) (kx, gx, ax, nx, sx) (P.take k ++ [(kx, gx, ax, nx, sx)]) t _ _ z (by rintro rfl; exact not_wrote (i := 8) (by rfl) hnot hw) hg7 hV
              · rintro t' ⟨⟩
                exact ho7
            | 9, ho =>
              obtain rfl := Option.some.inj ho
              obtain ⟨_, h53, rfl⟩ := given_fed hg 53 (by decide +kernel)
              clear hg
              exact st_yield ho (wanted_none rfl) (.pointer (some ⟨p, 0, none⟩)) w6 (by simp [execOp, Act.eval, h53, go_sem]) ⟨_, rfl, hI.keep (by decide) (by decide), fun _ _ _ h => h, by rintro t' ⟨⟩; rfl⟩
            | 10, ho =>
              obtain rfl := Option.some.inj ho
              obtain ⟨_, h62, rfl⟩ := given_fed hg 62 (by decide +kernel)
              clear hg
              exact st_yield ho (wanted_none rfl) (.pointer (some ⟨p, 0, none⟩)) w6 (by simp [execOp, Act.eval, h62, go_sem]) ⟨_, rfl, hI.keep (by decide) (by decide), fun _ _ _ h => h, by rintro t' ⟨⟩; rfl⟩
            | 11, ho =>
              obtain rfl := Option.some.inj ho
              obtain ⟨_, h63, rfl⟩ := given_fed hg 63 (by decide +kernel)
              obtain ⟨v61, h61, p61⟩ := given_fed hg 61 (by decide +kernel)
              clear hg
              have d8 := hr 8 (by decide +kernel)
              have hg6 := hI.2.1 d8 hnot
              have hp6 : w6.heap[p]? = some (.cells #[(.slice ua k uc), us, .pointer none] 66 (0, 0)) := (hg6.block p HN9.out.lt (fun e => HN9.out.pu e.symm)).trans HN9.out.row
              have hfz : w6.frozen? ⟨p, 0, none⟩ = false := frozen_of_row w6 p 0 _ _ hp6
              have k0 : w6.cell? ⟨p, 0, none⟩ = some (.slice ua k uc) := by rw [cell_of_row w6 p 0 _ _ _ hp6]; rfl
              obtain ⟨y1, y3, rfl, -⟩ := p61.r.form
              exact st_done ho (wanted_none rfl) (w6.setCell ⟨p, 0, none⟩ (.slice y1 (P.take k ++ [(kx, gx, ax, nx, sx)]).length y3)) (by simp [execOp, Act.eval, h61, h63, go_sem, hfz, k0]) ⟨_, rfl, hI.stored d8 hnot p61, fun t z _ hV => VNs_set p g (.slice ua k uc) (kx, gx, ax, nx, sx) (P.take k ++ [(kx, gx, ax, nx, sx)]) w6 hp6 _ t z hV, by rintro t' ⟨⟩⟩
            | n + 12, ho => simp at ho
          · intro f wz done hall hI hv
            obtain ⟨wy, vy, rfl, hgy, hoy⟩ := hI.2.2 (hall 11 (by decide))
            have HNF := Go.Lib.hid (HN9.out.drew.pairsS hgy hoy)
            rw [← HT.out, ES.out, EH.out] at HNF
            have HBF := Go.Lib.hid (((HB7.out.drew).grown hgy (by have := HB7.out.size; have := HG.out; simp; omega) (fun j hj => HN9.out.own.row j hj)).setCell (p := ⟨p, 0, none⟩) HN9.out.gp vy)
            clear hv hall hI hgy hoy
            unfold putAll
            simp only [List.foldl]
            go_simp
            go_wp2_with fail
            exact ⟨⟨k + 1, _, _, _, rfl, by omega, by go_num, HNF, HBF⟩, by simp only [intOf]; omega⟩
        · rw [if_neg hsame] at HS1 HH1
          have hk1 : k ≤ 1000 := by omega
          by_cases hk0 : k = 0
          · have hkI : ((k : Int) == 0) = true := by rw [beq_iff_eq]; omega
            obtain ⟨av, ch, rfl, -⟩ := HN7.out.hs.r.form
            obtain ⟨m, hm⟩ : ∃ m, m = H0.length := ⟨_, rfl⟩
            rw [← hm] at HN7 ⊢
            clear hk0 HK0 hm hsame
            have hgw : g ≤ w7.heap.size := by have := HB7.out.size; have := HG.out; omega
            have hbA := below_one w7 (.cells #[.int .u64 (hx : Int)] 68)
            have HNA := Go.Lib.hid (HN7.out.below hbA)
            have HBA := Go.Lib.hid (HB7.out.trans (hbA.mono hgw))
            have HXA := Go.Lib.hid (row_kept HX7.out hbA)
            have HON := Go.Lib.hid (KU.one1 w7 hx)
            clear hbA hgw HN7 HB7 HX7
            go_upto_region 11 with (first
              | (with_reducible show wpList _ _ _ (⟨some 42, _, _, _, _, _⟩ :: _) _ _; go_loud (refine KU_ok.append rfl (.tmp 39) (.tmp 41) rfl g (.slice av m ch) (.slice (some ⟨w7.heap.size, 0, none⟩) 1 1) H0 [hx] rfl rfl HNA.out.hs HON.out (by have := HHL.out; simp; omega) (by have := HBA.out.size; have := HG.out; omega) ?_); intro hv2 w8 ho8 hg8)
              | fail)
            have HN8 := Go.Lib.hid (HNA.out.hashes hg8 ho8)
            rw [← HH1.out] at HN8
            have HB8 := Go.Lib.hid (HBA.out.grown hg8 (by have := HBA.out.size; have := HG.out; omega) (fun j hj => HNA.out.hs.row j hj))
            have HX8 := Go.Lib.hid ((hg8.block g3 (Array.getElem?_eq_some_iff.1 HXA.out).1 (fun e => row_not HNA.out.hs HXA.out (by decide) e.symm)).trans HXA.out)
            clear ho8 hg8 HNA HBA HXA HON HH1 HHL
            have hgw : g ≤ w8.heap.size := by have := HB8.out.size; have := HG.out; omega
            have hbA := below_one w8 (.cells #[.int .i64 (k : Int)] 3)
            obtain ⟨x0, x1, x2⟩ := HN8.out.cells
            obtain ⟨sa, sc, rfl, -⟩ := HN8.out.starts.r.form
            have HNA := Go.Lib.hid (HN8.out.below hbA)
            have HBA := Go.Lib.hid (HB8.out.trans (hbA.mono hgw))
            have HXA := Go.Lib.hid (row_kept HX8.out hbA)
            have HON := Go.Lib.hid (KN.one1 w8 k)
            have HRNP := Go.Lib.hid (show some p ≠ (Value.slice sa S0.length sc).ownBlock from fun e => row_not HNA.out.starts HNA.out.row (by decide) e.symm)
            clear hbA hgw HN8 HB8 HX8
            go_upto_region 12 with (first
              | (with_reducible show wpList _ _ _ (⟨some 50, _, _, _, _, _⟩ :: _) _ _; go_must (refine KN_ok.append rfl (.tmp 47) (.tmp 49) rfl g (.slice sa S0.length sc) (.slice (some ⟨w8.heap.size, 0, none⟩) 1 1) S0 [k] rfl rfl HNA.out.starts HON.out (by have := HSL.out; simp; omega) (by have := HBA.out.size; have := HG.out; omega) ?_); go_must (intro us2 w9 ho9 hg9; obtain ⟨s1, s2, s3, rfl⟩ := ho9.slice; have hp9 := (hg9.block p HNA.out.lt HRNP.out).trans HNA.out.row; have hx9 := (raw3 hp9).2.1; have hf9 := frozen_of_row w9 p 1 _ _ hp9; have Hg9 := Go.Lib.hid hg9; have Ho9 := Go.Lib.hid ho9; clear hg9 ho9 hp9 x0 x1 x2))
              | fail)
            have HN9 := Go.Lib.hid (HNA.out.startsS Hg9.out Ho9.out)
            rw [← HS1.out] at HN9
            have HB9 := Go.Lib.hid ((HBA.out.grown Hg9.out (by have := HBA.out.size; have := HG.out; omega) (fun j hj => HNA.out.starts.row j hj)).setCell (p := ⟨p, 1, none⟩) HNA.out.gp (.slice s1 s2 s3))
            have HX9 := Go.Lib.hid (show (w9.setCell ⟨p, 1, none⟩ (.slice s1 s2 s3)).heap[g3]? = some (.cells #[.string kx, .int .i64 ax, .int .i64 nx, .string sx] 42 (0, 0)) from (Below.heap_setCell _ _ _ _ (by rintro rfl; have h1 := HXA.out; rw [HNA.out.row] at h1; simp only [Option.some.injEq, Obj.cells.injEq] at h1; exact absurd h1.2.1 (by decide))).trans ((Hg9.out.block g3 (Array.getElem?_eq_some_iff.1 HXA.out).1 (fun e => row_not HNA.out.starts HXA.out (by decide) e.symm)).trans HXA.out))
            clear Hg9 Ho9 hx9 hf9 HNA HBA HXA HON HS1 HSL
            generalize w9.setCell ⟨p, 1, none⟩ (.slice s1 s2 s3) = w9 at *
            refine wp_region_inv3 (by kernel_rfl) (VNs p g (.slice ua k uc) (kx, gx, ax, nx, sx) (P.take k ++ [(kx, gx, ax, nx, sx)])) (I12 w9.drew g p (.slice ua k uc) (P.take k ++ [(kx, gx, ax, nx, sx)])) (by decide +kernel) (by decide +kernel) (by rfl) [53, 54, 55, 56, 57, 58, 59, 60, 61, 62, 63] (by rfl) (I12.start _ _ _ _ _ _) ?_ ?_
            · intro i o ho a6 w6 done hI hnot hr hsh hlen hg
              match i, ho with
              | 0, ho =>
                obtain rfl := Option.some.inj ho
                have h4 := given_old hg 4 (by decide +kernel)
                clear hg
                exact st_yield ho (wanted_none rfl) (.pointer (some ⟨p, 0, none⟩)) w6 (by simp [execOp, Act.eval, h4, go_sem]) ⟨_, rfl, hI.keep (by decide) (by decide), fun _ _ _ h => h, by rintro t' ⟨⟩; rfl⟩
              | 1, ho =>
                obtain rfl := Option.some.inj ho
                have h4 := given_old hg 4 (by decide +kernel)
                clear hg
                exact st_yield ho (wanted_none rfl) (.pointer (some ⟨p, 0, none⟩)) w6 (by simp [execOp, Act.eval, h4, go_sem]) ⟨_, rfl, hI.keep (by decide) (by decide), fun _ _ _ h => h, by rintro t' ⟨⟩; rfl⟩
              | 2, ho =>
                obtain rfl := Option.some.inj ho
                obtain ⟨_, h54, rfl⟩ := given_fed hg 54 (by decide +kernel)
                clear hg
                exact st_yield ho (wanted_none rfl) (.pointer (some ⟨p, 0, none⟩)) w6 (by simp [execOp, Act.eval, h54, go_sem]) ⟨_, rfl, hI.keep (by decide) (by decide), fun _ _ _ h => h, by rintro t' ⟨⟩; rfl⟩
              | 3, ho =>
                obtain rfl := Option.some.inj ho
                obtain ⟨_, h55, rfl⟩ := given_fed hg 55 (by decide +kernel)
                clear hg
                exact st_yield ho (wanted_none rfl) (.pointer (some ⟨p, 0, none⟩)) w6 (by simp [execOp, Act.eval, h55, go_sem]) ⟨_, rfl, hI.keep (by decide) (by decide), fun _ _ _ h => h, by rintro t' ⟨⟩; rfl⟩
              | 4, ho =>
                obtain rfl := Option.some.inj ho
                obtain ⟨_, h56, rfl⟩ := given_fed hg 56 (by decide +kernel)
                clear hg
                have n8 : done 8 = false := by cases h : done 8 with | false => rfl | true => have := hsh 8 4 h (by decide +kernel); rw [hnot] at this; cases this
                have x1 : w6.cell? ⟨p, 0, none⟩ = some (.slice ua k uc) := by rw [cell_of_row w6 p 0 _ _ _ (((hI.1 n8).block p HN9.out.lt).trans HN9.out.row)]; rfl
                exact st_yield ho (wanted_none rfl) (.slice ua k uc) w6 (by simp [execOp, Act.eval, h56, go_sem, x1]) ⟨_, rfl, hI.keep (by decide) (by decide), fun _ _ _ h => h, by rintro t' ⟨⟩; rfl⟩
              | 5, ho =>
                obtain rfl := Option.some.inj ho
                have h7 := given_old hg 7 (by decide +kernel)
                clear hg
                have n8 : done 8 = false := by cases h : done 8 with | false => rfl | true => have := hsh 8 5 h (by decide +kernel); rw [hnot] at this; cases this
                obtain ⟨y0, y1, y2, y3⟩ := pair4 (((hI.1 n8).block g3 (Array.getElem?_eq_some_iff.1 HX9.out).1).trans HX9.out)
                exact st_yield ho (wanted_none rfl) (.agg #[.string kx, .int .i64 ax, .int .i64 nx, .string sx]) w6 (by simp [execOp, Act.eval, h7, go_sem, y0, y1, y2, y3]) ⟨_, rfl, hI.keep (by decide) (by decide), fun _ _ _ h => h, by rintro t' ⟨⟩; rfl⟩
              | 6, ho =>
                obtain rfl := Option.some.inj ho
                obtain ⟨_, h58, rfl⟩ := given_fed hg 58 (by decide +kernel)
                clear hg
                have n8 : done 8 = false := by cases h : done 8 with | false => rfl | true => have := hsh 8 6 h (by decide +kernel); rw [hnot] at this; cases this
                have n11 : done 11 = false := by cases h : done 11 with | false => rfl | true => have := hsh 11 6 h (by decide +kernel); rw [hnot] at this; cases this
                exact st_enter (w1 := w6) ho (wanted_none rfl) 35 #[.agg #[.string kx, .int .i64 ax, .int .i64 nx, .string sx]] (by simp [execOp, Act.eval, h58, pc4, resolve, go_sem]) ((CFR.out w6).mono (by rintro e wz ⟨rfl, hb7⟩; exact ⟨_, rfl, _, rfl, hI.more (by decide) (by decide) n8 n11 hb7, fun t z _ h => VNs_below p g (.slice ua k uc) (kx, gx, ax, nx, sx) (P.take k ++ [(kx, gx, ax, nx, sx)]) t _ _ z h hb7, by rintro t' ⟨⟩; rfl⟩))
              | 7, ho =>
                obtain rfl := Option.some.inj ho
                obtain ⟨_, h59, rfl⟩ := given_fed hg 59 (by decide +kernel)
                clear hg
                have n8 : done 8 = false := by cases h : done 8 with | false => rfl | true => have := hsh 8 7 h (by decide +kernel); rw [hnot] at this; cases this
                have n11 : done 11 = false := by cases h : done 11 with | false => rfl | true => have := hsh 11 7 h (by decide +kernel); rw [hnot] at this; cases this
                have hb7 : Below w6.heap.size w6 (w6.alloc (.cells (pc4 (kx, gx, ax, nx, sx)).toArray 42)) := (Below.refl _ _).alloc (Nat.le_refl _) _
                have hvl := fun q (hq : Value.ownBlock (.slice ua k uc) = some q) => (World.ownsRow.lt HN9.out.own q hq).2
                have hsz := (hI.1 n8).size
                exact st_yield ho (wanted_none rfl) (.slice (some ⟨w6.heap.size, 0, none⟩) 1 1) (w6.alloc (.cells (pc4 (kx, gx, ax, nx, sx)).toArray 42)) (by simp [execOp, Act.eval, h59, pc4, go_sem]) ⟨_, rfl, hI.more (by decide) (by decide) n8 n11 hb7, fun t z _ h => VNs_below p g (.slice ua k uc) (kx, gx, ax, nx, sx) (P.take k ++ [(kx, gx, ax, nx, sx)]) t _ _ z h hb7, by rintro t' ⟨⟩; exact ⟨w6.heap.size, rfl, heap_alloc_new w6 _, fun e => by have := hvl _ e; simp at hsz; omega⟩⟩
              | 8, ho =>
                obtain rfl := Option.some.inj ho
                obtain ⟨_, h57, rfl⟩ := given_fed hg 57 (by decide +kernel)
                obtain ⟨v60, h60, p60⟩ := given_fed hg 60 (by decide +kernel)
                clear hg
                have n11 : done 11 = false := by cases h : done 11 with | false => rfl | true => have := hsh 11 8 h (by decide +kernel); rw [hnot] at this; cases this
                have hb6 := hI.1 hnot
                obtain ⟨q, rfl, hg60, hne60⟩ := p60
                have hown : K4.O w6 g (.slice ua k uc) (P.take k) := Lay.O.below (w := w9.drew) HN9.out.own.drew hb6
                refine st_list ho (wanted_none rfl) (fun Q' hQ => ?_)
                refine K4_ok.append rfl (.tmp 57) (.tmp 60) rfl g (.slice ua k uc) (.slice (some ⟨q, 0, none⟩) 1 1) (P.take k) [(kx, gx, ax, nx, sx)] (by simp [Act.eval, h57]) (by simp [Act.eval, h60]) hown (K4.row1 hg60) (by simp; omega) (by have h1 := HB9.out.size; have h2 := HG.out; have := hb6.size; simp at this; omega) ?_
                intro v7 w8 ho7 hg7
                refine wpList_nil (hQ _ _ ⟨v7, rfl, hI.grown hnot n11 hg7, fun t z hw hV => ?_, ?_⟩)
                · exact VNs_grown p g (.slice ua k uc) (kx, gx, ax, nx, sx) (P.take k ++ [(kx, gx, ax, nx, sx)]) t _ _ z (by rintro rfl; exact not_wrote (i := 8) (by rfl) hnot hw) hg7 hV
                · rintro t' ⟨⟩
                  exact ho7
              | 9, ho =>
                obtain rfl := Option.some.inj ho
                obtain ⟨_, h53, rfl⟩ := given_fed hg 53 (by decide +kernel)
                clear hg
                exact st_yield ho (wanted_none rfl) (.pointer (some ⟨p, 0, none⟩)) w6 (by simp [execOp, Act.eval, h53, go_sem]) ⟨_, rfl, hI.keep (by decide) (by decide), fun _ _ _ h => h, by rintro t' ⟨⟩; rfl⟩
              | 10, ho =>
                obtain rfl := Option.some.inj ho
                obtain ⟨_, h62, rfl⟩ := given_fed hg 62 (by decide +kernel)
                clear hg
                exact st_yield ho (wanted_none rfl) (.pointer (some ⟨p, 0, none⟩)) w6 (by simp [execOp, Act.eval, h62, go_sem]) ⟨_, rfl, hI.keep (by decide) (by decide), fun _ _ _ h => h, by rintro t' ⟨⟩; rfl⟩
              | 11, ho =>
                obtain rfl := Option.some.inj ho
                obtain ⟨_, h63, rfl⟩ := given_fed hg 63 (by decide +kernel)
                obtain ⟨v61, h61, p61⟩ := given_fed hg 61 (by decide +kernel)
                clear hg
                have d8 := hr 8 (by decide +kernel)
                have hg6 := hI.2.1 d8 hnot
                have hp6 : w6.heap[p]? = some (.cells #[(.slice ua k uc), (.slice s1 s2 s3), .pointer none] 66 (0, 0)) := (hg6.block p HN9.out.lt (fun e => HN9.out.pu e.symm)).trans HN9.out.row
                have hfz : w6.frozen? ⟨p, 0, none⟩ = false := frozen_of_row w6 p 0 _ _ hp6
                have k0 : w6.cell? ⟨p, 0, none⟩ = some (.slice ua k uc) := by rw [cell_of_row w6 p 0 _ _ _ hp6]; rfl
                obtain ⟨y1, y3, rfl, -⟩ := p61.r.form
                exact st_done ho (wanted_none rfl) (w6.setCell ⟨p, 0, none⟩ (.slice y1 (P.take k ++ [(kx, gx, ax, nx, sx)]).length y3)) (by simp [execOp, Act.eval, h61, h63, go_sem, hfz, k0]) ⟨_, rfl, hI.stored d8 hnot p61, fun t z _ hV => VNs_set p g (.slice ua k uc) (kx, gx, ax, nx, sx) (P.take k ++ [(kx, gx, ax, nx, sx)]) w6 hp6 _ t z hV, by rintro t' ⟨⟩⟩
              | n + 12, ho => simp at ho
            · intro f wz done hall hI hv
              obtain ⟨wy, vy, rfl, hgy, hoy⟩ := hI.2.2 (hall 11 (by decide))
              have HNF := Go.Lib.hid (HN9.out.drew.pairsS hgy hoy)
              rw [← HT.out, ES.out, EH.out] at HNF
              have HBF := Go.Lib.hid (((HB9.out.drew).grown hgy (by have := HB9.out.size; have := HG.out; simp; omega) (fun j hj => HN9.out.own.row j hj)).setCell (p := ⟨p, 0, none⟩) HN9.out.gp vy)
              clear hv hall hI hgy hoy
              unfold putAll
              simp only [List.foldl]
              go_simp
              go_wp2_with fail
              exact ⟨⟨k + 1, _, _, _, rfl, by omega, by go_num, HNF, HBF⟩, by simp only [intOf]; omega⟩
          · have hkI : ((k : Int) == 0) = false := by rw [beq_eq_false_iff_ne]; omega
            obtain ⟨m, hm⟩ : ∃ m, H0.length = m + 1 := ⟨H0.length - 1, by have := List.length_pos_iff.2 (HK0.out (by omega)); omega⟩
            have hlast : H0[m]'(by omega) ≠ hx := fun e => hsame (by rw [List.getLast?_eq_getElem?, hm, Nat.add_sub_cancel, List.getElem?_eq_getElem (by omega), e])
            have hm1 : m ≤ 1000 := by have := HHL.out; omega
            obtain ⟨av, ch, rfl, -⟩ := HN7.out.hs.r.form
            obtain ⟨bh, oh, rfl, -, -, z0⟩ := KU.at' HN7.out.hs.r m (by omega)
            obtain ⟨hl, hhl⟩ : ∃ hl, hl = H0[m]'(by omega) := ⟨_, rfl⟩
            rw [← hhl] at z0 hlast
            have hi1 := idxU bh oh H0.length ch m (by omega)
            rw [hm] at hi1
            have hmI : ((m + 1 : Nat) : Int) - 1 = (m : Int) := by omega
            have hnn : ((hx : Int) != (hl : Int)) = true := by simp; omega
            rw [hm] at HN7 ⊢
            clear hk0 HK0 hm hhl hlast hsame
            have hgw : g ≤ w7.heap.size := by have := HB7.out.size; have := HG.out; omega
            have hbA := below_one w7 (.cells #[.int .u64 (hx : Int)] 68)
            have HNA := Go.Lib.hid (HN7.out.below hbA)
            have HBA := Go.Lib.hid (HB7.out.trans (hbA.mono hgw))
            have HXA := Go.Lib.hid (row_kept HX7.out hbA)
            have HON := Go.Lib.hid (KU.one1 w7 hx)
            clear hbA hgw HN7 HB7 HX7
            go_upto_region 11 with (first
              | (with_reducible show wpList _ _ _ (⟨some 42, _, _, _, _, _⟩ :: _) _ _; go_loud (refine KU_ok.append rfl (.tmp 39) (.tmp 41) rfl g (.slice (some ⟨bh, oh, none⟩) (m + 1) ch) (.slice (some ⟨w7.heap.size, 0, none⟩) 1 1) H0 [hx] rfl rfl HNA.out.hs HON.out (by have := HHL.out; simp; omega) (by have := HBA.out.size; have := HG.out; omega) ?_); intro hv2 w8 ho8 hg8)
              | fail)
            have HN8 := Go.Lib.hid (HNA.out.hashes hg8 ho8)
            rw [← HH1.out] at HN8
            have HB8 := Go.Lib.hid (HBA.out.grown hg8 (by have := HBA.out.size; have := HG.out; omega) (fun j hj => HNA.out.hs.row j hj))
            have HX8 := Go.Lib.hid ((hg8.block g3 (Array.getElem?_eq_some_iff.1 HXA.out).1 (fun e => row_not HNA.out.hs HXA.out (by decide) e.symm)).trans HXA.out)
            clear ho8 hg8 HNA HBA HXA HON HH1 HHL
            have hgw : g ≤ w8.heap.size := by have := HB8.out.size; have := HG.out; omega
            have hbA := below_one w8 (.cells #[.int .i64 (k : Int)] 3)
            obtain ⟨x0, x1, x2⟩ := HN8.out.cells
            obtain ⟨sa, sc, rfl, -⟩ := HN8.out.starts.r.form
            have HNA := Go.Lib.hid (HN8.out.below hbA)
            have HBA := Go.Lib.hid (HB8.out.trans (hbA.mono hgw))
            have HXA := Go.Lib.hid (row_kept HX8.out hbA)
            have HON := Go.Lib.hid (KN.one1 w8 k)
            have HRNP := Go.Lib.hid (show some p ≠ (Value.slice sa S0.length sc).ownBlock from fun e => row_not HNA.out.starts HNA.out.row (by decide) e.symm)
            clear hbA hgw HN8 HB8 HX8
            go_upto_region 12 with (first
              | (with_reducible show wpList _ _ _ (⟨some 50, _, _, _, _, _⟩ :: _) _ _; go_must (refine KN_ok.append rfl (.tmp 47) (.tmp 49) rfl g (.slice sa S0.length sc) (.slice (some ⟨w8.heap.size, 0, none⟩) 1 1) S0 [k] rfl rfl HNA.out.starts HON.out (by have := HSL.out; simp; omega) (by have := HBA.out.size; have := HG.out; omega) ?_); go_must (intro us2 w9 ho9 hg9; obtain ⟨s1, s2, s3, rfl⟩ := ho9.slice; have hp9 := (hg9.block p HNA.out.lt HRNP.out).trans HNA.out.row; have hx9 := (raw3 hp9).2.1; have hf9 := frozen_of_row w9 p 1 _ _ hp9; have Hg9 := Go.Lib.hid hg9; have Ho9 := Go.Lib.hid ho9; clear hg9 ho9 hp9 x0 x1 x2))
              | fail)
            have HN9 := Go.Lib.hid (HNA.out.startsS Hg9.out Ho9.out)
            rw [← HS1.out] at HN9
            have HB9 := Go.Lib.hid ((HBA.out.grown Hg9.out (by have := HBA.out.size; have := HG.out; omega) (fun j hj => HNA.out.starts.row j hj)).setCell (p := ⟨p, 1, none⟩) HNA.out.gp (.slice s1 s2 s3))
            have HX9 := Go.Lib.hid (show (w9.setCell ⟨p, 1, none⟩ (.slice s1 s2 s3)).heap[g3]? = some (.cells #[.string kx, .int .i64 ax, .int .i64 nx, .string sx] 42 (0, 0)) from (Below.heap_setCell _ _ _ _ (by rintro rfl; have h1 := HXA.out; rw [HNA.out.row] at h1; simp only [Option.some.injEq, Obj.cells.injEq] at h1; exact absurd h1.2.1 (by decide))).trans ((Hg9.out.block g3 (Array.getElem?_eq_some_iff.1 HXA.out).1 (fun e => row_not HNA.out.starts HXA.out (by decide) e.symm)).trans HXA.out))
            clear Hg9 Ho9 hx9 hf9 HNA HBA HXA HON HS1 HSL
            generalize w9.setCell ⟨p, 1, none⟩ (.slice s1 s2 s3) = w9 at *
            refine wp_region_inv3 (by kernel_rfl) (VNs p g (.slice ua k uc) (kx, gx, ax, nx, sx) (P.take k ++ [(kx, gx, ax, nx, sx)])) (I12 w9.drew g p (.slice ua k uc) (P.take k ++ [(kx, gx, ax, nx, sx)])) (by decide +kernel) (by decide +kernel) (by rfl) [53, 54, 55, 56, 57, 58, 59, 60, 61, 62, 63] (by rfl) (I12.start _ _ _ _ _ _) ?_ ?_
            · intro i o ho a6 w6 done hI hnot hr hsh hlen hg
              match i, ho with
              | 0, ho =>
                obtain rfl := Option.some.inj ho
                have h4 := given_old hg 4 (by decide +kernel)
                clear hg
                exact st_yield ho (wanted_none rfl) (.pointer (some ⟨p, 0, none⟩)) w6 (by simp [execOp, Act.eval, h4, go_sem]) ⟨_, rfl, hI.keep (by decide) (by decide), fun _ _ _ h => h, by rintro t' ⟨⟩; rfl⟩
              | 1, ho =>
                obtain rfl := Option.some.inj ho
                have h4 := given_old hg 4 (by decide +kernel)
                clear hg
                exact st_yield ho (wanted_none rfl) (.pointer (some ⟨p, 0, none⟩)) w6 (by simp [execOp, Act.eval, h4, go_sem]) ⟨_, rfl, hI.keep (by decide) (by decide), fun _ _ _ h => h, by rintro t' ⟨⟩; rfl⟩
              | 2, ho =>
                obtain rfl := Option.some.inj ho
                obtain ⟨_, h54, rfl⟩ := given_fed hg 54 (by decide +kernel)
                clear hg
                exact st_yield ho (wanted_none rfl) (.pointer (some ⟨p, 0, none⟩)) w6 (by simp [execOp, Act.eval, h54, go_sem]) ⟨_, rfl, hI.keep (by decide) (by decide), fun _ _ _ h => h, by rintro t' ⟨⟩; rfl⟩
              | 3, ho =>
                obtain rfl := Option.some.inj ho
                obtain ⟨_, h55, rfl⟩ := given_fed hg 55 (by decide +kernel)
                clear hg
                exact st_yield ho (wanted_none rfl) (.pointer (some ⟨p, 0, none⟩)) w6 (by simp [execOp, Act.eval, h55, go_sem]) ⟨_, rfl, hI.keep (by decide) (by decide), fun _ _ _ h => h, by rintro t' ⟨⟩; rfl⟩
              | 4, ho =>
                obtain rfl := Option.some.inj ho
                obtain ⟨_, h56, rfl⟩ := given_fed hg 56 (by decide +kernel)
                clear hg
                have n8 : done 8 = false := by cases h : done 8 with | false => rfl | true => have := hsh 8 4 h (by decide +kernel); rw [hnot] at this; cases this
                have x1 : w6.cell? ⟨p, 0, none⟩ = some (.slice ua k uc) := by rw [cell_of_row w6 p 0 _ _ _ (((hI.1 n8).block p HN9.out.lt).trans HN9.out.row)]; rfl
                exact st_yield ho (wanted_none rfl) (.slice ua k uc) w6 (by simp [execOp, Act.eval, h56, go_sem, x1]) ⟨_, rfl, hI.keep (by decide) (by decide), fun _ _ _ h => h, by rintro t' ⟨⟩; rfl⟩
              | 5, ho =>
                obtain rfl := Option.some.inj ho
                have h7 := given_old hg 7 (by decide +kernel)
                clear hg
                have n8 : done 8 = false := by cases h : done 8 with | false => rfl | true => have := hsh 8 5 h (by decide +kernel); rw [hnot] at this; cases this
                obtain ⟨y0, y1, y2, y3⟩ := pair4 (((hI.1 n8).block g3 (Array.getElem?_eq_some_iff.1 HX9.out).1).trans HX9.out)
                exact st_yield ho (wanted_none rfl) (.agg #[.string kx, .int .i64 ax, .int .i64 nx, .string sx]) w6 (by simp [execOp, Act.eval, h7, go_sem, y0, y1, y2, y3]) ⟨_, rfl, hI.keep (by decide) (by decide), fun _ _ _ h => h, by rintro t' ⟨⟩; rfl⟩
              | 6, ho =>
                obtain rfl := Option.some.inj ho
                obtain ⟨_, h58, rfl⟩ := given_fed hg 58 (by decide +kernel)
                clear hg
                have n8 : done 8 = false := by cases h : done 8 with | false => rfl | true => have := hsh 8 6 h (by decide +kernel); rw [hnot] at this; cases this
                have n11 : done 11 = false := by cases h : done 11 with | false => rfl | true => have := hsh 11 6 h (by decide +kernel); rw [hnot] at this; cases this
                exact st_enter (w1 := w6) ho (wanted_none rfl) 35 #[.agg #[.string kx, .int .i64 ax, .int .i64 nx, .string sx]] (by simp [execOp, Act.eval, h58, pc4, resolve, go_sem]) ((CFR.out w6).mono (by rintro e wz ⟨rfl, hb7⟩; exact ⟨_, rfl, _, rfl, hI.more (by decide) (by decide) n8 n11 hb7, fun t z _ h => VNs_below p g (.slice ua k uc) (kx, gx, ax, nx, sx) (P.take k ++ [(kx, gx, ax, nx, sx)]) t _ _ z h hb7, by rintro t' ⟨⟩; rfl⟩))
              | 7, ho =>
                obtain rfl := Option.some.inj ho
                obtain ⟨_, h59, rfl⟩ := given_fed hg 59 (by decide +kernel)
                clear hg
                have n8 : done 8 = false := by cases h : done 8 with | false => rfl | true => have := hsh 8 7 h (by decide +kernel); rw [hnot] at this; cases this
                have n11 : done 11 = false := by cases h : done 11 with | false => rfl | true => have := hsh 11 7 h (by decide +kernel); rw [hnot] at this; cases this
                have hb7 : Below w6.heap.size w6 (w6.alloc (.cells (pc4 (kx, gx, ax, nx, sx)).toArray 42)) := (Below.refl _ _).alloc (Nat.le_refl _) _
                have hvl := fun q (hq : Value.ownBlock (.slice ua k uc) = some q) => (World.ownsRow.lt HN9.out.own q hq).2
                have hsz := (hI.1 n8).size
                exact st_yield ho (wanted_none rfl) (.slice (some ⟨w6.heap.size, 0, none⟩) 1 1) (w6.alloc (.cells (pc4 (kx, gx, ax, nx, sx)).toArray 42)) (by simp [execOp, Act.eval, h59, pc4, go_sem]) ⟨_, rfl, hI.more (by decide) (by decide) n8 n11 hb7, fun t z _ h => VNs_below p g (.slice ua k uc) (kx, gx, ax, nx, sx) (P.take k ++ [(kx, gx, ax, nx, sx)]) t _ _ z h hb7, by rintro t' ⟨⟩; exact ⟨w6.heap.size, rfl, heap_alloc_new w6 _, fun e => by have := hvl _ e; simp at hsz; omega⟩⟩
              | 8, ho =>
                obtain rfl := Option.some.inj ho
                obtain ⟨_, h57, rfl⟩ := given_fed hg 57 (by decide +kernel)
                obtain ⟨v60, h60, p60⟩ := given_fed hg 60 (by decide +kernel)
                clear hg
                have n11 : done 11 = false := by cases h : done 11 with | false => rfl | true => have := hsh 11 8 h (by decide +kernel); rw [hnot] at this; cases this
                have hb6 := hI.1 hnot
                obtain ⟨q, rfl, hg60, hne60⟩ := p60
                have hown : K4.O w6 g (.slice ua k uc) (P.take k) := Lay.O.below (w := w9.drew) HN9.out.own.drew hb6
                refine st_list ho (wanted_none rfl) (fun Q' hQ => ?_)
                refine K4_ok.append rfl (.tmp 57) (.tmp 60) rfl g (.slice ua k uc) (.slice (some ⟨q, 0, none⟩) 1 1) (P.take k) [(kx, gx, ax, nx, sx)] (by simp [Act.eval, h57]) (by simp [Act.eval, h60]) hown (K4.row1 hg60) (by simp; omega) (by have h1 := HB9.out.size; have h2 := HG.out; have := hb6.size; simp at this; omega) ?_
                intro v7 w8 ho7 hg7
                refine wpList_nil (hQ _ _ ⟨v7, rfl, hI.grown hnot n11 hg7, fun t z hw hV => ?_, ?_⟩)
                · exact VNs_grown p g (.slice ua k uc) (kx, gx, ax, nx, sx) (P.take k ++ [(kx, gx, ax, nx, sx)]) t _ _ z (by rintro rfl; exact not_wrote (i := 8) (by rfl) hnot hw) hg7 hV
                · rintro t' ⟨⟩
                  exact ho7
              | 9, ho =>
                obtain rfl := Option.some.inj ho
                obtain ⟨_, h53, rfl⟩ := given_fed hg 53 (by decide +kernel)
                clear hg
                exact st_yield ho (wanted_none rfl) (.pointer (some ⟨p, 0, none⟩)) w6 (by simp [execOp, Act.eval, h53, go_sem]) ⟨_, rfl, hI.keep (by decide) (by decide), fun _ _ _ h => h, by rintro t' ⟨⟩; rfl⟩
              | 10, ho =>
                obtain rfl := Option.some.inj ho
                obtain ⟨_, h62, rfl⟩ := given_fed hg 62 (by decide +kernel)
                clear hg
                exact st_yield ho (wanted_none rfl) (.pointer (some ⟨p, 0, none⟩)) w6 (by simp [execOp, Act.eval, h62, go_sem]) ⟨_, rfl, hI.keep (by decide) (by decide), fun _ _ _ h => h, by rintro t' ⟨⟩; rfl⟩
              | 11, ho =>
                obtain rfl := Option.some.inj ho
                obtain ⟨_, h63, rfl⟩ := given_fed hg 63 (by decide +kernel)
                obtain ⟨v61, h61, p61⟩ := given_fed hg 61 (by decide +kernel)
                clear hg
                have d8 := hr 8 (by decide +kernel)
                have hg6 := hI.2.1 d8 hnot
                have hp6 : w6.heap[p]? = some (.cells #[(.slice ua k uc), (.slice s1 s2 s3), .pointer none] 66 (0, 0)) := (hg6.block p HN9.out.lt (fun e => HN9.out.pu e.symm)).trans HN9.out.row
                have hfz : w6.frozen? ⟨p, 0, none⟩ = false := frozen_of_row w6 p 0 _ _ hp6
                have k0 : w6.cell? ⟨p, 0, none⟩ = some (.slice ua k uc) := by rw [cell_of_row w6 p 0 _ _ _ hp6]; rfl
                obtain ⟨y1, y3, rfl, -⟩ := p61.r.form
                exact st_done ho (wanted_none rfl) (w6.setCell ⟨p, 0, none⟩ (.slice y1 (P.take k ++ [(kx, gx, ax, nx, sx)]).length y3)) (by simp [execOp, Act.eval, h61, h63, go_sem, hfz, k0]) ⟨_, rfl, hI.stored d8 hnot p61, fun t z _ hV => VNs_set p g (.slice ua k uc) (kx, gx, ax, nx, sx) (P.take k ++ [(kx, gx, ax, nx, sx)]) w6 hp6 _ t z hV, by rintro t' ⟨⟩⟩
              | n + 12, ho => simp at ho
            · intro f wz done hall hI hv
              obtain ⟨wy, vy, rfl, hgy, hoy⟩ := hI.2.2 (hall 11 (by decide))
              have HNF := Go.Lib.hid (HN9.out.drew.pairsS hgy hoy)
              rw [← HT.out, ES.out, EH.out] at HNF
              have HBF := Go.Lib.hid (((HB9.out.drew).grown hgy (by have := HB9.out.size; have := HG.out; simp; omega) (fun j hj => HN9.out.own.row j hj)).setCell (p := ⟨p, 0, none⟩) HN9.out.gp vy)
              clear hv hall hI hgy hoy
              unfold putAll
              simp only [List.foldl]
              go_simp
              go_wp2_with fail
              exact ⟨⟨k + 1, _, _, _, rfl, by omega, by go_num, HNF, HBF⟩, by simp only [intOf]; omega⟩
      · obtain rfl : k = P.length := by omega
        rw [List.take_length] at HN
        have hgw : g ≤ wr.heap.size := by have := HB.out.size; have := HG.out; omega
        have hhl := hashesG_length hR P
        have CB := Go.Lib.hid (build_yes hv (hashesG hR P) wr HN.out.hs.r HH64.out (by omega) (riseB_of HRI.out))
        clear hhl
        go_wp2_with fail
        refine CB.out.mono ?_
        rintro e w4 ⟨b4, ub, rfl, hbt, hwb, hc⟩
        have HN4 := Go.Lib.hid (HN.out.below hc)
        obtain ⟨x0, x1, x2⟩ := HN4.out.cells
        have hfz : w4.frozen? ⟨p, 2, none⟩ = false := frozen_of_row w4 p 2 _ _ HN4.out.row
        have HF := Go.Lib.hid (show NewSTo P w (.returned (.tuple #[.pointer (some ⟨p, 0, none⟩), .int .i64 0])) (w4.setCell ⟨p, 2, none⟩ (.pointer (some ⟨b4, 0, none⟩))) from by
          have h1 := HN4.out.done (hbt.mono (Nat.le_trans hgw hwb)) HMAY.out
          have h2 := (HB.out.trans (hc.mono hgw)).setCell (p := ⟨p, 2, none⟩) HN4.out.gp (.pointer (some ⟨b4, 0, none⟩))
          rw [HG.out] at h1 h2
          exact ⟨h2, .inl ⟨HMAY.out, p, rfl, h1⟩⟩)
        clear hbt hwb hc CB HN HN4 HB hgw
        go_wp2_with fail
        go_ret2
        exact HF.out

end Go.Proofs.Ytibbligidncocaa
