/-
  Stage 18: Put.
-/
import Derived.Test.YtkddleonmkhaiaaGreatM22
import Derived.Test.YtkddleonmkhaiaaGreatM26
import Derived.Test.YtkddleonmkhaiaaGreatM27
import Derived.Test.YtkddleonmkhaiaaGreatM20
import Derived.Test.YtkddleonmkhaiaaGreatM17
namespace Go.Proofs.YtkddleonmkhaiaaGreat
open Go.RowKit

/-- What Put answers, what is kept. -/
def putE (L : List RecT) (x : RecT) : Int := if mayT x then (if roomR L x.1 then 0 else 5) else 1
def putN (L : List RecT) (x : RecT) : List RecT := if mayT x && roomR L x.1 then putL L x else L

theorem setCells_heap : ∀ (vs : List Value) (w : World) (b o k : Nat), k ≠ b → (w.setCells b o vs).heap[k]? = w.heap[k]?
  | [], w, b, o, k, _ => rfl
  | v :: r, w, b, o, k, hn => by rw [World.setCells, setCells_heap r _ _ _ _ hn]; exact Below.heap_setCell _ _ _ _ hn
theorem setCells_rest : ∀ (vs : List Value) (w : World) (b o : Nat), (w.setCells b o vs).os = w.os ∧ (w.setCells b o vs).tape = w.tape ∧ (w.setCells b o vs).output = w.output ∧ (w.setCells b o vs).heap.size = w.heap.size
  | [], w, b, o => ⟨rfl, rfl, rfl, rfl⟩
  | v :: r, w, b, o => by
    rw [World.setCells]
    obtain ⟨h1, h2, h3, h4⟩ := setCells_rest r (w.setCell ⟨b, o, none⟩ v) b (o + 1)
    exact ⟨h1, h2, h3, h4.trans (by simp [World.setCell])⟩

/-- A record in place of another one of its key. -/
theorem LG.stored {w : World} {B p d g n cap : Nat} {L : List RecT} (h : LG w B p d (.slice (some ⟨g, 0, none⟩) n cap) L) {i : Nat} (hi : i < L.length) {x : RecT} (hx : x.1 = L[i].1) (hm : mayT x = true) :
    LG (w.setCells g (i * 5) (rc5 x)) B p d (.slice (some ⟨g, 0, none⟩) n cap) (L.set i x) ∧ Off3 p d (some g) w (w.setCells g (i * 5) (rc5 x)) := by
  have hpg : p ≠ g := fun e => h.pv (by rw [e]; rfl)
  have hdg : d ≠ g := fun e => h.dv (by rw [e]; rfl)
  obtain ⟨T, hc, hf⟩ := h.ck
  have hk : keyR x = keyR L[i] := by unfold keyR; rw [hx]
  obtain ⟨r1, r2, r3, r4⟩ := setCells_rest (rc5 x) w g (i * 5)
  refine ⟨⟨h.bp, h.bd, (setCells_heap _ _ _ _ _ hpg).trans h.row, ⟨T, hc.same (setCells_heap _ _ _ _ _ hdg), ?_⟩, (Lay.O.store (K := K5) h.own K5_ok i hi x).1, h.keys.set hi hk, ?_⟩, ⟨r1, r2, r3, by omega, fun k _ _ _ hn => setCells_heap _ _ _ _ _ (fun e => hn (by rw [e]))⟩⟩
  · rw [esL_set hi (by unfold hR; rw [hx])]
    exact hf
  · intro y hy
    rcases List.mem_or_eq_of_mem_set hy with hy | rfl
    · exact h.may y hy
    · exact hm
theorem there5 {w : World} {B p d g n cap : Nat} {L : List RecT} (h : LG w B p d (.slice (some ⟨g, 0, none⟩) n cap) L) {i : Nat} (hi : i < L.length) : w.there g (i * 5) 5 := Lay.O.there (K := K5) h.own K5_ok i hi
/-- A record more. -/
theorem LG.grown {w w1 w2 : World} {B p d : Nat} {v v' : Value} {L : List RecT} (h : LG w B p d v L) {x : RecT} (ho : Off1 d w w1) (hck : ∃ T, CK w1 d T ∧ Fits T (esL L ++ [(hashS x.1, (L.length : Int))])) (hg : w1.grownBy w2 v.ownBlock) (hown : OwnRec w2 B v' (L ++ [x])) (hnew : ∀ y ∈ L, y.1 ≠ x.1) (hm : mayT x = true) :
    LG (w2.setCell ⟨p, 1, none⟩ v') B p d v' (L ++ [x]) ∧ Off3 p d v.ownBlock w (w2.setCell ⟨p, 1, none⟩ v') := by
  have hp1 : w1.heap[p]? = some (.cells #[.pointer (some ⟨d, 0, none⟩), v] 54 (0, 0)) := (ho.block p h.plt h.pd).trans h.row
  have hp2 : w2.heap[p]? = some (.cells #[.pointer (some ⟨d, 0, none⟩), v] 54 (0, 0)) := (hg.block p (Array.getElem?_eq_some_iff.1 hp1).1 (fun e => h.pv e.symm)).trans hp1
  obtain ⟨T, hc, hf⟩ := hck
  have hd2 : CK w2 d T := hc.same (hg.block d hc.lt (fun e => h.dv e.symm))
  have hsame : ∀ k, k ≠ p → (w2.setCell ⟨p, 1, none⟩ v').heap[k]? = w2.heap[k]? := fun k hn => Below.heap_setCell _ _ _ _ hn
  have hkey : ∀ y ∈ L, keyR y ≠ keyR x := fun y hy e => hnew y hy (keyR_eq.1 e)
  refine ⟨⟨h.bp, h.bd, ?_, ⟨T, hd2.same (hsame d (fun e => h.pd e.symm)), by rw [esL_snoc]; exact hf⟩, own_same hown fun g cs fr hgr _ => hsame g (by rintro rfl; rw [hp2] at hgr; simp only [Option.some.injEq, Obj.cells.injEq] at hgr; exact tLogRec hgr.2.1), h.keys.snoc hkey, ?_⟩, ?_⟩
  · unfold World.setCell
    rw [Array.getElem?_modify, if_pos rfl, hp2]
    rfl
  · intro y hy
    rcases List.mem_append.1 hy with hy | hy
    · exact h.may y hy
    · rw [List.mem_singleton.1 hy]; exact hm
  · refine ⟨(hg.os.trans ho.os), (hg.tape.trans ho.tape), (hg.output.trans ho.output), ?_, fun k hk h1 h2 h3 => ?_⟩
    · have h1 := ho.size
      have h2 := hg.size
      have : (w2.setCell ⟨p, 1, none⟩ v').heap.size = w2.heap.size := by simp [World.setCell]
      omega
    · exact ((hsame k h1).trans (hg.block k (Nat.lt_of_lt_of_le hk ho.size) (fun e => h3 e))).trans (ho.block k hk h2)

/-- Within 'l.recs = append(l.recs, fresh(r))'. -/
def I11 (w0 : World) (B p : Nat) (v1 : Value) (M : List RecT) (done : Nat → Bool) (_a : Act) (w : World) : Prop :=
  (done 8 = false → Below w0.heap.size w0 w) ∧ (done 8 = true → done 11 = false → w0.grownBy w v1.ownBlock) ∧
  (done 11 = true → ∃ w1 v', w = w1.setCell ⟨p, 1, none⟩ v' ∧ w0.grownBy w1 v1.ownBlock ∧ OwnRec w1 B v' M ∧ (v'.ownBlock = v1.ownBlock ∨ ∀ k, v'.ownBlock = some k → w0.heap.size ≤ k))
section
variable {w0 w w' : World} {B p : Nat} {v1 : Value} {M : List RecT} {done : Nat → Bool} {a a' : Act}
theorem I11.start (w0 : World) (B p : Nat) (v1 : Value) (M : List RecT) (a : Act) : I11 w0 B p v1 M (fun _ => false) a w0 := ⟨fun _ => Below.refl _ _, fun h => absurd h (by simp), fun h => absurd h (by simp)⟩
theorem I11.keep (h : I11 w0 B p v1 M done a w) {i : Nat} (h8 : 8 ≠ i) (h11 : 11 ≠ i) : I11 w0 B p v1 M (doneToo done i) a' w := by
  unfold I11
  rw [doneToo_other h8, doneToo_other h11]
  exact h
theorem I11.more (h : I11 w0 B p v1 M done a w) {i : Nat} (h8 : 8 ≠ i) (h11 : 11 ≠ i) (n8 : done 8 = false) (n11 : done 11 = false) (hb : Below w.heap.size w w') : I11 w0 B p v1 M (doneToo done i) a' w' := by
  unfold I11
  rw [doneToo_other h8, doneToo_other h11]
  have h1 := h.1 n8
  exact ⟨fun _ => h1.trans (hb.mono h1.size), fun e => absurd (n8.symm.trans e) (by simp), fun e => absurd (n11.symm.trans e) (by simp)⟩
theorem I11.grown (h : I11 w0 B p v1 M done a w) (n8 : done 8 = false) (n11 : done 11 = false) (hg : w.grownBy w' v1.ownBlock) : I11 w0 B p v1 M (doneToo done 8) a' w' := by
  have h1 := h.1 n8
  refine ⟨fun e => absurd ((doneToo_self done 8).symm.trans e) (by simp), fun _ _ => ?_, fun e => absurd ((doneToo_other (done := done) (i := 8) (j := 11) (by decide)).symm.trans e |>.symm.trans n11) (by simp)⟩
  exact ⟨hg.os.trans h1.os, hg.tape.trans h1.tape, hg.output.trans h1.output, Nat.le_trans h1.size hg.size, fun k hk hn => (hg.block k (Nat.lt_of_lt_of_le hk h1.size) hn).trans (h1.block k hk)⟩
theorem I11.stored (h : I11 w0 B p v1 M done a w) (d8 : done 8 = true) (n11 : done 11 = false) {v' : Value} (ho : OwnRec w B v' M) (hw : v'.ownBlock = v1.ownBlock ∨ ∀ k, v'.ownBlock = some k → w0.heap.size ≤ k) : I11 w0 B p v1 M (doneToo done 11) a' (w.setCell ⟨p, 1, none⟩ v') :=
  ⟨fun e => absurd ((doneToo_other (done := done) (i := 11) (j := 8) (by decide)).symm.trans e |>.symm.trans d8) (by simp), fun _ e => absurd ((doneToo_self done 11).symm.trans e) (by simp), fun _ => ⟨w, v', rfl, h.2.1 d8 n11, ho, hw⟩⟩
end
def VLp (p S B : Nat) (v1 : Value) (x : RecT) (M : List RecT) : Nat → World → Value → Prop
  | 39, _, v => v = .pointer (some ⟨p, 0, none⟩)
  | 40, _, v => v = .pointer (some ⟨p, 0, none⟩)
  | 41, _, v => v = .pointer (some ⟨p, 0, none⟩)
  | 42, _, v => v = .pointer (some ⟨p, 1, none⟩)
  | 43, _, v => v = v1
  | 44, _, v => v = .agg (rc5 x).toArray
  | 45, _, v => v = .agg (rc5 x).toArray
  | 48, _, v => v = .pointer (some ⟨p, 0, none⟩)
  | 49, _, v => v = .pointer (some ⟨p, 1, none⟩)
  | 46, w, v => ∃ g, v = .slice (some ⟨g, 0, none⟩) 1 1 ∧ w.heap[g]? = some (.cells (rc5 x).toArray 33 (0, 0)) ∧ v1.ownBlock ≠ some g
  | 47, w, v => OwnRec w B v M ∧ (v.ownBlock = v1.ownBlock ∨ ∀ k, v.ownBlock = some k → S ≤ k)
  | _, _, _ => True
theorem VLp_below (p S B : Nat) (v1 : Value) (x : RecT) (M : List RecT) : ∀ (i : Nat) (w w' : World) (v : Value), VLp p S B v1 x M i w v → Below w.heap.size w w' → VLp p S B v1 x M i w' v := by
  intro i w w' v h hb
  unfold VLp at h ⊢
  split at h <;> first | exact h | trivial | exact (let ⟨g, h1, h2, h3⟩ := h; ⟨g, h1, (hb.block g (Array.getElem?_eq_some_iff.1 h2).1).trans h2, h3⟩) | exact ⟨h.1.below hb, h.2⟩
theorem VLp_grown (p S B : Nat) (v1 : Value) (x : RecT) (M : List RecT) : ∀ (i : Nat) (w w' : World) (v : Value), i ≠ 47 → w.grownBy w' v1.ownBlock → VLp p S B v1 x M i w v → VLp p S B v1 x M i w' v := by
  intro i w w' v hi hg h
  unfold VLp at h ⊢
  split at h <;> first | exact absurd rfl hi | exact h | trivial | exact (let ⟨g, h1, h2, h3⟩ := h; ⟨g, h1, (hg.block g (Array.getElem?_eq_some_iff.1 h2).1 (fun e => h3 e.symm)).trans h2, h3⟩)
theorem VLp_set (p S B : Nat) (v1 : Value) (x : RecT) (M : List RecT) (w : World) {cs : Array Value} {fr : Nat × Nat} (hp : w.heap[p]? = some (.cells cs 54 fr)) (u : Value) : ∀ (i : Nat) (v : Value), VLp p S B v1 x M i w v → VLp p S B v1 x M i (w.setCell ⟨p, 1, none⟩ u) v := by
  intro i v h
  unfold VLp at h ⊢
  split at h <;> first
    | exact h
    | trivial
    | exact (let ⟨g, h1, h2, h3⟩ := h; ⟨g, h1, (Below.heap_setCell _ _ _ _ (by rintro rfl; rw [hp] at h2; simp only [Option.some.injEq, Obj.cells.injEq] at h2; exact tLogRec h2.2.1)).trans h2, h3⟩)
    | exact ⟨own_same h.1 fun g _ _ hgr _ => Below.heap_setCell _ _ _ _ (by rintro rfl; rw [hp] at hgr; simp only [Option.some.injEq, Obj.cells.injEq] at hgr; exact tLogRec hgr.2.1), h.2⟩

def VL7 (p g len cap iq : Nat) (key : ByteArray) (gone : Bool) (k n : Int) (s : ByteArray) : Nat → World → Value → Prop
  | 17, _, v => v = .pointer (some ⟨p, 0, none⟩)
  | 18, _, v => v = .pointer (some ⟨p, 0, none⟩)
  | 19, _, v => v = .pointer (some ⟨p, 1, none⟩)
  | 20, _, v => v = .slice (some ⟨g, 0, none⟩) len cap
  | 21, _, v => v = .int .i64 (iq : Int)
  | 22, _, v => v = .agg #[.string key, .bool gone, .int .i64 k, .int .i64 n, .string s]
  | 23, _, v => v = .agg #[.string key, .bool gone, .int .i64 k, .int .i64 n, .string s]
  | 24, _, v => v = .pointer (some ⟨g, iq * 5, none⟩)
  | _, _, _ => True

theorem VL7_below (p g len cap iq : Nat) (key : ByteArray) (gone : Bool) (k n : Int) (s : ByteArray) : ∀ (i : Nat) (w w' : World) (v : Value), VL7 p g len cap iq key gone k n s i w v → Below w.heap.size w w' → VL7 p g len cap iq key gone k n s i w' v := by
  intro i w w' v h hb
  unfold VL7 at h ⊢
  split at h <;> first | exact h | trivial | exact h

def VL9 (p d g0 hk len cap : Nat) (av : Option Addr) (key : ByteArray) : Nat → World → Value → Prop
  | 25, _, v => v = .pointer (some ⟨p, 0, none⟩)
  | 26, _, v => v = .pointer (some ⟨p, 0, none⟩)
  | 27, _, v => v = .pointer (some ⟨p, 0, none⟩)
  | 28, _, v => v = .pointer (some ⟨d, 0, none⟩)
  | 29, _, v => v = .pointer (some ⟨g0, 0, none⟩)
  | 30, _, v => v = .string key
  | 31, _, v => v = .int .u64 (hk : Int)
  | 32, _, v => v = .pointer (some ⟨p, 0, none⟩)
  | 33, _, v => v = .pointer (some ⟨p, 0, none⟩)
  | 34, _, v => v = .pointer (some ⟨p, 1, none⟩)
  | 35, _, v => v = .slice av len cap
  | 36, _, v => v = .int .i64 (len : Int)
  | _, _, _ => True

theorem VL9_below (p d g0 hk len cap : Nat) (av : Option Addr) (key : ByteArray) : ∀ (i : Nat) (w w' : World) (v : Value), VL9 p d g0 hk len cap av key i w v → Below w.heap.size w w' → VL9 p d g0 hk len cap av key i w' v := by
  intro i w w' v h hb
  unfold VL9 at h ⊢
  split at h <;> first | exact h | trivial | exact h

set_option maxRecDepth 100000 in
/-- No log; a record that may not be. -/
theorem lnil_put (key : ByteArray) (gone : Bool) (k n : Int) (s : ByteArray) (w : World) :
    Calls Tryz.prog 12 #[.pointer none, recV key gone k n s] w fun e w' => e = .returned (.int .i64 7) ∧ Below w.heap.size w w' := by
  unfold recV
  have hb := below_one w (.cells #[.string key, .bool gone, .int .i64 k, .int .i64 n, .string s] 33)
  go_enter Tryz.func12, Tryz.ntmps12
  go_wp2_with fail
  go_ret
  exact ⟨rfl, hb⟩

set_option maxHeartbeats 4000000 in
set_option maxRecDepth 100000 in
theorem lput_w {w : World} {B p d : Nat} {v : Value} {L : List RecT} (h : LG w B p d v L) (key : ByteArray) (gone : Bool) (k n : Int) (s : ByteArray) (hk : key.size ≤ maxLen) (hs : s.size ≤ maxLen) :
    Calls Tryz.prog 12 #[.pointer (some ⟨p, 0, none⟩), recV key gone k n s] w fun e w' => e = .returned (.int .i64 (putE L (key, gone, k, n, s))) ∧ (∃ v', LG w' B p d v' (putN L (key, gone, k, n, s)) ∧ (v'.ownBlock = v.ownBlock ∨ ∀ k, v'.ownBlock = some k → w.heap.size ≤ k)) ∧ Off3 p d v.ownBlock w w' := by
  have CM := Go.Lib.hid fun W => pmay_c key gone k n s W hk hs
  have hmx : mayT (key, gone, k, n, s) = mayRec key gone k n s := rfl
  by_cases hm : mayRec key gone k n s = true
  · have hsz := mayT_short (x := (key, gone, k, n, s)) (hmx.trans hm)
    have CFI := Go.Lib.hid fun W (hb : Below w.heap.size w W) => lfind_c (h.below hb) key (by have := hsz.1; simp only [] at this; omega)
    have CFR := Go.Lib.hid fun W => frec_c key gone k n s W (by have := hsz.1; simp only [] at this; omega) (by have := hsz.2; simp only [] at this; omega)
    have CHO := Go.Lib.hid fun W => hof_k key (hashS key) rfl W (by have := hsz.1; simp only [] at this; omega)
    have H := Go.Lib.hid h
    have HP1 := Go.Lib.hid (show mayT (key, gone, k, n, s) = true from hmx.trans hm)
    have hb1 := below_one w (.cells #[.string key, .bool gone, .int .i64 k, .int .i64 n, .string s] 33)
    have hA := heap_alloc_new w (.cells #[.string key, .bool gone, .int .i64 k, .int .i64 n, .string s] 33)
    rw [hm] at CM
    unfold recV at CM CFR ⊢
    clear hsz hk hs hmx hm h
    go_enter Tryz.func12, Tryz.ntmps12
    go_wp2_with fail
    refine (CM.out _).mono ?_
    rintro e w1 ⟨rfl, hc⟩
    have hA := row_kept hA hc
    have hbb := hb1.trans (hc.mono hb1.size)
    obtain ⟨x0, x1, x2, x3, x4⟩ := row5 hA
    clear hc hb1 CM
    go_wp2_with fail
    refine (CFI.out _ hbb).mono ?_
    rintro e w2 ⟨hor, hc⟩
    have hA := row_kept hA hc
    have hbb := hbb.trans (hc.mono hbb.size)
    clear hc x0 x1 x2 x3 x4 CFI
    obtain ⟨g0, hg0⟩ : ∃ g, g = w.heap.size := ⟨_, rfl⟩
    rw [← hg0] at hA ⊢
    have HG0 := Go.Lib.hid hg0
    clear hg0
    have HBB := Go.Lib.hid hbb
    have HA := Go.Lib.hid hA
    have H2 := Go.Lib.hid (H.out.below hbb)
    clear hbb hA
    rcases hor with ⟨iq, hi, hik, rfl⟩ | ⟨hno, rfl⟩
    · obtain ⟨g, cap, rfl, hglt⟩ := own_form H.out.own (by intro e; rw [e] at hi; simp at hi)
      have HE := Go.Lib.hid (show putE L (key, gone, k, n, s) = 0 ∧ putN L (key, gone, k, n, s) = L.set iq (key, gone, k, n, s) from by
        have hin : roomR L key = true := by
          unfold roomR
          have : findK keyR L key.toList = some L[iq] := (find_iff H.out.keys _ _).2 ⟨List.getElem_mem hi, keyR_eq.2 hik⟩
          rw [this]; rfl
        unfold putE putN
        rw [HP1.out]
        simp only [hin, if_true, Bool.and_self]
        exact ⟨trivial, putL_in H.out.keys hi (keyR_eq.2 hik)⟩)
      have HIK := Go.Lib.hid hik
      have HIX := Go.Lib.hid (run_idx5 g 0 L.length cap iq hi)
      clear hik
      go_upto_region 7 with (fail)
      refine wp_region_head 8 (by decide) (by kernel_rfl) (VL7 p g L.length cap iq key gone k n s) (VL7_below p g L.length cap iq key gone k n s) (by decide +kernel) (by rfl) [17, 18, 19, 20, 21, 22, 23, 24] (by rfl) ?_ ?_
      · intro i o hin ho a w6 hb6 hlen hg
        have x1 := keepC H2.out.cells.2 hb6
        obtain ⟨y0, y1, y2, y3, y4⟩ := row5 (row_kept HA.out hb6)
        have hix := HIX.out w6
        rw [Nat.zero_add] at hix
        match i, hin, ho with
        | 0, hin, ho =>
          obtain rfl := Option.some.inj ho
          have h0 := given_old hg 0 (by decide +kernel)
          clear hg
          exact st_yield ho (wanted_none rfl) (.pointer (some ⟨p, 0, none⟩)) w6 (by simp [execOp, Act.eval, h0, go_sem]) ⟨_, rfl, Below.refl _ _, by rintro t' ⟨⟩; rfl⟩
        | 1, hin, ho =>
          obtain rfl := Option.some.inj ho
          obtain ⟨_, h17, rfl⟩ := given_fed hg 17 (by decide +kernel)
          clear hg
          exact st_yield ho (wanted_none rfl) (.pointer (some ⟨p, 0, none⟩)) w6 (by simp [execOp, Act.eval, h17, go_sem]) ⟨_, rfl, Below.refl _ _, by rintro t' ⟨⟩; rfl⟩
        | 2, hin, ho =>
          obtain rfl := Option.some.inj ho
          obtain ⟨_, h18, rfl⟩ := given_fed hg 18 (by decide +kernel)
          clear hg
          exact st_yield ho (wanted_none rfl) (.pointer (some ⟨p, 1, none⟩)) w6 (by simp [execOp, Act.eval, h18, go_sem]) ⟨_, rfl, Below.refl _ _, by rintro t' ⟨⟩; rfl⟩
        | 3, hin, ho =>
          obtain rfl := Option.some.inj ho
          obtain ⟨_, h19, rfl⟩ := given_fed hg 19 (by decide +kernel)
          clear hg
          exact st_yield ho (wanted_none rfl) (.slice (some ⟨g, 0, none⟩) L.length cap) w6 (by simp [execOp, Act.eval, h19, go_sem, x1]) ⟨_, rfl, Below.refl _ _, by rintro t' ⟨⟩; rfl⟩
        | 4, hin, ho =>
          obtain rfl := Option.some.inj ho
          have h5 := given_old hg 5 (by decide +kernel)
          clear hg
          exact st_yield ho (wanted_none rfl) (.int .i64 (iq : Int)) w6 (by simp [execOp, Act.eval, h5, go_sem]) ⟨_, rfl, Below.refl _ _, by rintro t' ⟨⟩; rfl⟩
        | 5, hin, ho =>
          obtain rfl := Option.some.inj ho
          have h3 := given_old hg 3 (by decide +kernel)
          clear hg
          exact st_yield ho (wanted_none rfl) (.agg #[.string key, .bool gone, .int .i64 k, .int .i64 n, .string s]) w6 (by simp [execOp, Act.eval, h3, go_sem, y0, y1, y2, y3, y4]) ⟨_, rfl, Below.refl _ _, by rintro t' ⟨⟩; rfl⟩
        | 6, hin, ho =>
          obtain rfl := Option.some.inj ho
          obtain ⟨_, h22, rfl⟩ := given_fed hg 22 (by decide +kernel)
          clear hg
          exact st_enter (w1 := w6) ho (wanted_none rfl) 31 #[.agg #[.string key, .bool gone, .int .i64 k, .int .i64 n, .string s]] (by simp [execOp, Act.eval, h22, resolve, go_sem]) ((CFR.out _).mono (by rintro e w7 ⟨rfl, hb7⟩; exact ⟨_, rfl, _, rfl, hb7, by rintro t' ⟨⟩; rfl⟩))
        | 7, hin, ho =>
          obtain rfl := Option.some.inj ho
          obtain ⟨_, h20, rfl⟩ := given_fed hg 20 (by decide +kernel)
          obtain ⟨_, h21, rfl⟩ := given_fed hg 21 (by decide +kernel)
          clear hg
          exact st_yield ho (wanted_none rfl) (.pointer (some ⟨g, iq * 5, none⟩)) w6 (by simp [execOp, Act.eval, h20, h21, go_sem, hix]) ⟨_, rfl, Below.refl _ _, by rintro t' ⟨⟩; rfl⟩
        | n + 8, hin, ho => omega
      · intro f w6 hb6 hv
        have h23 := hv 23 (by decide)
        have h24 := hv 24 (by decide)
        simp only [VL7] at h23 h24
        have HL6 := Go.Lib.hid (H2.out.below hb6)
        have HB6 := Go.Lib.hid (HBB.out.trans (hb6.mono HBB.out.size))
        have HTH := Go.Lib.hid (show w6.there g (iq * 5) (#[.string key, .bool gone, .int .i64 k, .int .i64 n, .string s] : Array Value).size from there5 HL6.out hi)
        have HST := Go.Lib.hid (HL6.out.stored hi (x := (key, gone, k, n, s)) HIK.out.symm HP1.out)
        have hz : g + 0 = g := rfl
        clear hv hb6 HIX CFR CHO
        unfold putAll
        simp only [List.foldl, List.drop]
        simp only [h23, h24]
        clear h23 h24
        go_simp
        go_wp2_with (first
          | (with_reducible show wpList _ _ _ (⟨none, _, _, _, _, _⟩ :: _) _ _; go_loud (refine wpList_store_mid rfl 33 (.tmp 24) (.tmp 23) rfl g (iq * 5) #[.string key, .bool gone, .int .i64 k, .int .i64 n, .string s] rfl rfl HTH.out (by kernel_rfl) (rec_cells_one ..) ?_))
          | fail)
        go_ret
        obtain ⟨h1, h2⟩ := HE.out
        rw [h1, h2]
        exact ⟨rfl, ⟨_, HST.out.1, .inl rfl⟩, (Off3.of_below HB6.out).trans (r1 := some g) HST.out.2 (.inl rfl)⟩
    · have HFD := Go.Lib.hid (show findK keyR L key.toList = none from (find_none _).2 fun x hx e => hno x hx (keyR_eq.1 e))
      have HNO := Go.Lib.hid hno
      obtain ⟨x20, x21⟩ := H2.out.cells
      obtain ⟨av, cap, rfl, hlm⟩ := H.out.own.rs.form
      have X0 := Go.Lib.hid x20
      have X1 := Go.Lib.hid x21
      clear hno x20 x21
      cases hr : roomB (L.map hR ++ [hashS key]) with
      | false =>
        have HE := Go.Lib.hid (show putE L (key, gone, k, n, s) = 5 ∧ putN L (key, gone, k, n, s) = L from by
          have hin : roomR L key = false := by
            unfold roomR
            rw [HFD.out, hr]; rfl
          unfold putE putN
          rw [HP1.out]
          simp [hin])
        have CI := Go.Lib.hid fun W (hb : Below w2.heap.size w2 W) => (show Calls Tryz.prog 32 #[.pointer (some ⟨d, 0, none⟩), .int .u64 (hashS key : Int), .int .i64 (L.length : Int)] W fun e w' => e = .returned (.bool false) ∧ Below W.heap.size W w' from by
          obtain ⟨T, hc, hf⟩ := (H2.out.below hb).ck
          exact cinsert_no hc hf (hashS_lt key) (by have := H.out.len; rw [show (L.length : Int) = wrap64 (L.length : Int) from by unfold wrap64; omega]; exact wrap64_wf _) (by rw [esL_fst, hr]; simp))
        clear hr
        generalize hashS key = hk at *
        go_upto_region 9 with (fail)
        refine wp_region_head 12 (by decide) (by kernel_rfl) (VL9 p d g0 hk L.length cap av key) (VL9_below p d g0 hk L.length cap av key) (by decide +kernel) (by rfl) [25, 26, 27, 28, 29, 30, 31, 32, 33, 34, 35, 36] (by rfl) ?_ ?_
        · intro i o hin ho a w6 hb6 hlen hg
          have x0 := keepC X0.out hb6
          have x1 := keepC X1.out hb6
          obtain ⟨y0, y1, y2, y3, y4⟩ := row5 (row_kept HA.out hb6)
          match i, hin, ho with
          | 0, hin, ho =>
            obtain rfl := Option.some.inj ho
            have h0 := given_old hg 0 (by decide +kernel)
            clear hg
            exact st_yield ho (wanted_none rfl) (.pointer (some ⟨p, 0, none⟩)) w6 (by simp [execOp, Act.eval, h0, go_sem]) ⟨_, rfl, Below.refl _ _, by rintro t' ⟨⟩; rfl⟩
          | 1, hin, ho =>
            obtain rfl := Option.some.inj ho
            obtain ⟨_, h25, rfl⟩ := given_fed hg 25 (by decide +kernel)
            clear hg
            exact st_yield ho (wanted_none rfl) (.pointer (some ⟨p, 0, none⟩)) w6 (by simp [execOp, Act.eval, h25, go_sem]) ⟨_, rfl, Below.refl _ _, by rintro t' ⟨⟩; rfl⟩
          | 2, hin, ho =>
            obtain rfl := Option.some.inj ho
            obtain ⟨_, h26, rfl⟩ := given_fed hg 26 (by decide +kernel)
            clear hg
            exact st_yield ho (wanted_none rfl) (.pointer (some ⟨p, 0, none⟩)) w6 (by simp [execOp, Act.eval, h26, go_sem]) ⟨_, rfl, Below.refl _ _, by rintro t' ⟨⟩; rfl⟩
          | 3, hin, ho =>
            obtain rfl := Option.some.inj ho
            obtain ⟨_, h27, rfl⟩ := given_fed hg 27 (by decide +kernel)
            clear hg
            exact st_yield ho (wanted_none rfl) (.pointer (some ⟨d, 0, none⟩)) w6 (by simp [execOp, Act.eval, h27, go_sem, x0]) ⟨_, rfl, Below.refl _ _, by rintro t' ⟨⟩; rfl⟩
          | 4, hin, ho =>
            obtain rfl := Option.some.inj ho
            have h3 := given_old hg 3 (by decide +kernel)
            clear hg
            exact st_yield ho (wanted_none rfl) (.pointer (some ⟨g0, 0, none⟩)) w6 (by simp [execOp, Act.eval, h3, go_sem]) ⟨_, rfl, Below.refl _ _, by rintro t' ⟨⟩; rfl⟩
          | 5, hin, ho =>
            obtain rfl := Option.some.inj ho
            obtain ⟨_, h29, rfl⟩ := given_fed hg 29 (by decide +kernel)
            clear hg
            exact st_yield ho (wanted_none rfl) (.string key) w6 (by simp [execOp, Act.eval, h29, go_sem, y0]) ⟨_, rfl, Below.refl _ _, by rintro t' ⟨⟩; rfl⟩
          | 6, hin, ho =>
            obtain rfl := Option.some.inj ho
            obtain ⟨_, h30, rfl⟩ := given_fed hg 30 (by decide +kernel)
            clear hg
            exact st_enter (w1 := w6) ho (wanted_none rfl) 33 #[.string key] (by simp [execOp, Act.eval, h30, resolve, go_sem]) ((CHO.out _).mono (by rintro e w7 ⟨rfl, hb7⟩; exact ⟨_, rfl, _, rfl, hb7, by rintro t' ⟨⟩; rfl⟩))
          | 7, hin, ho =>
            obtain rfl := Option.some.inj ho
            have h0 := given_old hg 0 (by decide +kernel)
            clear hg
            exact st_yield ho (wanted_none rfl) (.pointer (some ⟨p, 0, none⟩)) w6 (by simp [execOp, Act.eval, h0, go_sem]) ⟨_, rfl, Below.refl _ _, by rintro t' ⟨⟩; rfl⟩
          | 8, hin, ho =>
            obtain rfl := Option.some.inj ho
            obtain ⟨_, h32, rfl⟩ := given_fed hg 32 (by decide +kernel)
            clear hg
            exact st_yield ho (wanted_none rfl) (.pointer (some ⟨p, 0, none⟩)) w6 (by simp [execOp, Act.eval, h32, go_sem]) ⟨_, rfl, Below.refl _ _, by rintro t' ⟨⟩; rfl⟩
          | 9, hin, ho =>
            obtain rfl := Option.some.inj ho
            obtain ⟨_, h33, rfl⟩ := given_fed hg 33 (by decide +kernel)
            clear hg
            exact st_yield ho (wanted_none rfl) (.pointer (some ⟨p, 1, none⟩)) w6 (by simp [execOp, Act.eval, h33, go_sem]) ⟨_, rfl, Below.refl _ _, by rintro t' ⟨⟩; rfl⟩
          | 10, hin, ho =>
            obtain rfl := Option.some.inj ho
            obtain ⟨_, h34, rfl⟩ := given_fed hg 34 (by decide +kernel)
            clear hg
            exact st_yield ho (wanted_none rfl) (.slice av L.length cap) w6 (by simp [execOp, Act.eval, h34, go_sem, x1]) ⟨_, rfl, Below.refl _ _, by rintro t' ⟨⟩; rfl⟩
          | 11, hin, ho =>
            obtain rfl := Option.some.inj ho
            obtain ⟨_, h35, rfl⟩ := given_fed hg 35 (by decide +kernel)
            clear hg
            exact st_yield ho (wanted_none rfl) (.int .i64 (L.length : Int)) w6 (by simp [execOp, Act.eval, h35, go_sem, resolve]) ⟨_, rfl, Below.refl _ _, by rintro t' ⟨⟩; rfl⟩
          | n + 12, hin, ho => omega
        · intro f w6 hb6 hv
          have h28 := hv 28 (by decide)
          have h31 := hv 31 (by decide)
          have h36 := hv 36 (by decide)
          simp only [VL9] at h28 h31 h36
          have HC := Go.Lib.hid (CI.out w6 hb6)
          have HB6 := Go.Lib.hid (HBB.out.trans (hb6.mono HBB.out.size))
          clear hv hb6 CFR CHO CI
          unfold putAll
          simp only [List.foldl, List.drop]
          simp only [h28, h31, h36]
          clear h28 h31 h36
          go_simp
          go_wp2_with fail
          refine HC.out.mono ?_
          rintro e w7 ⟨rfl, hc⟩
          have HB7 := Go.Lib.hid (HB6.out.trans (hc.mono HB6.out.size))
          clear hc
          go_wp2_with fail
          go_ret
          obtain ⟨h1, h2⟩ := HE.out
          rw [h1, h2]
          exact ⟨rfl, ⟨_, H.out.below HB7.out, .inl rfl⟩, Off3.of_below HB7.out⟩
      | true =>
        have HE := Go.Lib.hid (show putE L (key, gone, k, n, s) = 0 ∧ putN L (key, gone, k, n, s) = L ++ [(key, gone, k, n, s)] from by
          have hin : roomR L key = true := by
            unfold roomR
            rw [HFD.out, hr]; rfl
          unfold putE putN
          rw [HP1.out]
          simp only [hin, if_true, Bool.and_self]
          exact ⟨trivial, putL_new fun y hy e => HNO.out y hy (keyR_eq.1 e)⟩)
        have CI := Go.Lib.hid fun W (hb : Below w2.heap.size w2 W) => (show Calls Tryz.prog 32 #[.pointer (some ⟨d, 0, none⟩), .int .u64 (hashS key : Int), .int .i64 (L.length : Int)] W fun e w' => e = .returned (.bool true) ∧ (∃ T', CK w' d T' ∧ Fits T' (esL L ++ [(hashS key, (L.length : Int))])) ∧ Off1 d W w' from by
          obtain ⟨T, hc, hf⟩ := (H2.out.below hb).ck
          exact cinsert_yes hc hf (hashS_lt key) (by have := H.out.len; unfold idOk; simp; omega) (by rw [esL_fst, hr]))
        have HGR := Go.Lib.hid fun (w' w1 w2 : World) (v' : Value) (h' : LG w' B p d (.slice av L.length cap) L) => @LG.grown w' w1 w2 B p d (.slice av L.length cap) v' L h' (key, gone, k, n, s)
        simp only [] at HGR
        clear hr
        generalize hashS key = hk at *
        go_upto_region 9 with (fail)
        refine wp_region_head 12 (by decide) (by kernel_rfl) (VL9 p d g0 hk L.length cap av key) (VL9_below p d g0 hk L.length cap av key) (by decide +kernel) (by rfl) [25, 26, 27, 28, 29, 30, 31, 32, 33, 34, 35, 36] (by rfl) ?_ ?_
        · intro i o hin ho a w6 hb6 hlen hg
          have x0 := keepC X0.out hb6
          have x1 := keepC X1.out hb6
          obtain ⟨y0, y1, y2, y3, y4⟩ := row5 (row_kept HA.out hb6)
          match i, hin, ho with
          | 0, hin, ho =>
            obtain rfl := Option.some.inj ho
            have h0 := given_old hg 0 (by decide +kernel)
            clear hg
            exact st_yield ho (wanted_none rfl) (.pointer (some ⟨p, 0, none⟩)) w6 (by simp [execOp, Act.eval, h0, go_sem]) ⟨_, rfl, Below.refl _ _, by rintro t' ⟨⟩; rfl⟩
          | 1, hin, ho =>
            obtain rfl := Option.some.inj ho
            obtain ⟨_, h25, rfl⟩ := given_fed hg 25 (by decide +kernel)
            clear hg
            exact st_yield ho (wanted_none rfl) (.pointer (some ⟨p, 0, none⟩)) w6 (by simp [execOp, Act.eval, h25, go_sem]) ⟨_, rfl, Below.refl _ _, by rintro t' ⟨⟩; rfl⟩
          | 2, hin, ho =>
            obtain rfl := Option.some.inj ho
            obtain ⟨_, h26, rfl⟩ := given_fed hg 26 (by decide +kernel)
            clear hg
            exact st_yield ho (wanted_none rfl) (.pointer (some ⟨p, 0, none⟩)) w6 (by simp [execOp, Act.eval, h26, go_sem]) ⟨_, rfl, Below.refl _ _, by rintro t' ⟨⟩; rfl⟩
          | 3, hin, ho =>
            obtain rfl := Option.some.inj ho
            obtain ⟨_, h27, rfl⟩ := given_fed hg 27 (by decide +kernel)
            clear hg
            exact st_yield ho (wanted_none rfl) (.pointer (some ⟨d, 0, none⟩)) w6 (by simp [execOp, Act.eval, h27, go_sem, x0]) ⟨_, rfl, Below.refl _ _, by rintro t' ⟨⟩; rfl⟩
          | 4, hin, ho =>
            obtain rfl := Option.some.inj ho
            have h3 := given_old hg 3 (by decide +kernel)
            clear hg
            exact st_yield ho (wanted_none rfl) (.pointer (some ⟨g0, 0, none⟩)) w6 (by simp [execOp, Act.eval, h3, go_sem]) ⟨_, rfl, Below.refl _ _, by rintro t' ⟨⟩; rfl⟩
          | 5, hin, ho =>
            obtain rfl := Option.some.inj ho
            obtain ⟨_, h29, rfl⟩ := given_fed hg 29 (by decide +kernel)
            clear hg
            exact st_yield ho (wanted_none rfl) (.string key) w6 (by simp [execOp, Act.eval, h29, go_sem, y0]) ⟨_, rfl, Below.refl _ _, by rintro t' ⟨⟩; rfl⟩
          | 6, hin, ho =>
            obtain rfl := Option.some.inj ho
            obtain ⟨_, h30, rfl⟩ := given_fed hg 30 (by decide +kernel)
            clear hg
            exact st_enter (w1 := w6) ho (wanted_none rfl) 33 #[.string key] (by simp [execOp, Act.eval, h30, resolve, go_sem]) ((CHO.out _).mono (by rintro e w7 ⟨rfl, hb7⟩; exact ⟨_, rfl, _, rfl, hb7, by rintro t' ⟨⟩; rfl⟩))
          | 7, hin, ho =>
            obtain rfl := Option.some.inj ho
            have h0 := given_old hg 0 (by decide +kernel)
            clear hg
            exact st_yield ho (wanted_none rfl) (.pointer (some ⟨p, 0, none⟩)) w6 (by simp [execOp, Act.eval, h0, go_sem]) ⟨_, rfl, Below.refl _ _, by rintro t' ⟨⟩; rfl⟩
          | 8, hin, ho =>
            obtain rfl := Option.some.inj ho
            obtain ⟨_, h32, rfl⟩ := given_fed hg 32 (by decide +kernel)
            clear hg
            exact st_yield ho (wanted_none rfl) (.pointer (some ⟨p, 0, none⟩)) w6 (by simp [execOp, Act.eval, h32, go_sem]) ⟨_, rfl, Below.refl _ _, by rintro t' ⟨⟩; rfl⟩
          | 9, hin, ho =>
            obtain rfl := Option.some.inj ho
            obtain ⟨_, h33, rfl⟩ := given_fed hg 33 (by decide +kernel)
            clear hg
            exact st_yield ho (wanted_none rfl) (.pointer (some ⟨p, 1, none⟩)) w6 (by simp [execOp, Act.eval, h33, go_sem]) ⟨_, rfl, Below.refl _ _, by rintro t' ⟨⟩; rfl⟩
          | 10, hin, ho =>
            obtain rfl := Option.some.inj ho
            obtain ⟨_, h34, rfl⟩ := given_fed hg 34 (by decide +kernel)
            clear hg
            exact st_yield ho (wanted_none rfl) (.slice av L.length cap) w6 (by simp [execOp, Act.eval, h34, go_sem, x1]) ⟨_, rfl, Below.refl _ _, by rintro t' ⟨⟩; rfl⟩
          | 11, hin, ho =>
            obtain rfl := Option.some.inj ho
            obtain ⟨_, h35, rfl⟩ := given_fed hg 35 (by decide +kernel)
            clear hg
            exact st_yield ho (wanted_none rfl) (.int .i64 (L.length : Int)) w6 (by simp [execOp, Act.eval, h35, go_sem, resolve]) ⟨_, rfl, Below.refl _ _, by rintro t' ⟨⟩; rfl⟩
          | n + 12, hin, ho => omega
        · intro f w6 hb6 hv
          have h28 := hv 28 (by decide)
          have h31 := hv 31 (by decide)
          have h36 := hv 36 (by decide)
          simp only [VL9] at h28 h31 h36
          have HC := Go.Lib.hid (CI.out w6 hb6)
          have HB6 := Go.Lib.hid (HBB.out.trans (hb6.mono HBB.out.size))
          have HL6 := Go.Lib.hid (H2.out.below hb6)
          have HA6 := Go.Lib.hid (row_kept HA.out hb6)
          clear hv hb6 CHO CI
          unfold putAll
          simp only [List.foldl, List.drop]
          simp only [h28, h31, h36]
          clear h28 h31 h36
          go_simp
          go_wp2_with fail
          refine HC.out.mono ?_
          rintro e w7 ⟨rfl, hck, hoff⟩
          have HA7 := Go.Lib.hid (show w7.heap[g0]? = some (.cells #[.string key, .bool gone, .int .i64 k, .int .i64 n, .string s] 33 (0, 0)) from (hoff.block g0 (Array.getElem?_eq_some_iff.1 HA6.out).1 (by have := H.out.dlt; have := HG0.out; omega)).trans HA6.out)
          have HP7 := Go.Lib.hid (show w7.heap[p]? = some (.cells #[.pointer (some ⟨d, 0, none⟩), .slice av L.length cap] 54 (0, 0)) from (hoff.block p HL6.out.plt HL6.out.pd).trans HL6.out.row)
          have HO7 := Go.Lib.hid (show OwnRec w7 B (.slice av L.length cap) L from own_same HL6.out.own fun q _ _ hq hqv => hoff.block q (Array.getElem?_eq_some_iff.1 hq).1 (by rintro rfl; exact HL6.out.dv hqv))
          have HOFF := Go.Lib.hid hoff
          have HCK := Go.Lib.hid hck
          have HBS := Go.Lib.hid (show B ≤ w7.heap.size from by have := HL6.out.Ble; have := hoff.size; omega)
          have HPV := Go.Lib.hid H.out.pv
          have HL1 := Go.Lib.hid H.out.len
          clear hoff hck HC HA6 X0 X1 HA
          go_upto_region 11 with (fail)
          refine wp_region_inv3 (by kernel_rfl) (VLp p w7.drew.heap.size B (.slice av L.length cap) (key, gone, k, n, s) (L ++ [(key, gone, k, n, s)])) (I11 w7.drew B p (.slice av L.length cap) (L ++ [(key, gone, k, n, s)])) (by decide +kernel) (by decide +kernel) (by rfl) [39, 40, 41, 42, 43, 44, 45, 46, 47, 48, 49] (by rfl) (I11.start _ _ _ _ _ _) ?_ ?_
          · intro i o ho a6 w6 done hI hnot hr hsh hlen hg
            match i, ho with
            | 0, ho =>
              obtain rfl := Option.some.inj ho
              have h0 := given_old hg 0 (by decide +kernel)
              clear hg
              exact st_yield ho (wanted_none rfl) (.pointer (some ⟨p, 0, none⟩)) w6 (by simp [execOp, Act.eval, h0, go_sem]) ⟨_, rfl, hI.keep (by decide) (by decide), fun _ _ _ h => h, by rintro t' ⟨⟩; rfl⟩
            | 1, ho =>
              obtain rfl := Option.some.inj ho
              have h0 := given_old hg 0 (by decide +kernel)
              clear hg
              exact st_yield ho (wanted_none rfl) (.pointer (some ⟨p, 0, none⟩)) w6 (by simp [execOp, Act.eval, h0, go_sem]) ⟨_, rfl, hI.keep (by decide) (by decide), fun _ _ _ h => h, by rintro t' ⟨⟩; rfl⟩
            | 2, ho =>
              obtain rfl := Option.some.inj ho
              obtain ⟨_, h40, rfl⟩ := given_fed hg 40 (by decide +kernel)
              clear hg
              exact st_yield ho (wanted_none rfl) (.pointer (some ⟨p, 0, none⟩)) w6 (by simp [execOp, Act.eval, h40, go_sem]) ⟨_, rfl, hI.keep (by decide) (by decide), fun _ _ _ h => h, by rintro t' ⟨⟩; rfl⟩
            | 3, ho =>
              obtain rfl := Option.some.inj ho
              obtain ⟨_, h41, rfl⟩ := given_fed hg 41 (by decide +kernel)
              clear hg
              exact st_yield ho (wanted_none rfl) (.pointer (some ⟨p, 1, none⟩)) w6 (by simp [execOp, Act.eval, h41, go_sem]) ⟨_, rfl, hI.keep (by decide) (by decide), fun _ _ _ h => h, by rintro t' ⟨⟩; rfl⟩
            | 4, ho =>
              obtain rfl := Option.some.inj ho
              obtain ⟨_, h42, rfl⟩ := given_fed hg 42 (by decide +kernel)
              clear hg
              have n8 : done 8 = false := by cases h : done 8 with | false => rfl | true => have := hsh 8 4 h (by decide +kernel); rw [hnot] at this; cases this
              have x1 : w6.cell? ⟨p, 1, none⟩ = some (.slice av L.length cap) := by rw [cell_of_row w6 p 1 _ _ _ (((hI.1 n8).block p (Array.getElem?_eq_some_iff.1 HP7.out).1).trans HP7.out)]; rfl
              exact st_yield ho (wanted_none rfl) (.slice av L.length cap) w6 (by simp [execOp, Act.eval, h42, go_sem, x1]) ⟨_, rfl, hI.keep (by decide) (by decide), fun _ _ _ h => h, by rintro t' ⟨⟩; rfl⟩
            | 5, ho =>
              obtain rfl := Option.some.inj ho
              have h3 := given_old hg 3 (by decide +kernel)
              clear hg
              have n8 : done 8 = false := by cases h : done 8 with | false => rfl | true => have := hsh 8 5 h (by decide +kernel); rw [hnot] at this; cases this
              obtain ⟨y0, y1, y2, y3, y4⟩ := row5 (((hI.1 n8).block g0 (Array.getElem?_eq_some_iff.1 HA7.out).1).trans HA7.out)
              exact st_yield ho (wanted_none rfl) (.agg #[.string key, .bool gone, .int .i64 k, .int .i64 n, .string s]) w6 (by simp [execOp, Act.eval, h3, go_sem, y0, y1, y2, y3, y4]) ⟨_, rfl, hI.keep (by decide) (by decide), fun _ _ _ h => h, by rintro t' ⟨⟩; rfl⟩
            | 6, ho =>
              obtain rfl := Option.some.inj ho
              obtain ⟨_, h44, rfl⟩ := given_fed hg 44 (by decide +kernel)
              clear hg
              have n8 : done 8 = false := by cases h : done 8 with | false => rfl | true => have := hsh 8 6 h (by decide +kernel); rw [hnot] at this; cases this
              have n11 : done 11 = false := by cases h : done 11 with | false => rfl | true => have := hsh 11 6 h (by decide +kernel); rw [hnot] at this; cases this
              exact st_enter (w1 := w6) ho (wanted_none rfl) 31 #[.agg #[.string key, .bool gone, .int .i64 k, .int .i64 n, .string s]] (by simp [execOp, Act.eval, h44, rc5, resolve, go_sem]) ((CFR.out w6).mono (by rintro e wz ⟨rfl, hb7⟩; exact ⟨_, rfl, _, rfl, hI.more (by decide) (by decide) n8 n11 hb7, fun t u _ h => VLp_below p w7.drew.heap.size B (.slice av L.length cap) (key, gone, k, n, s) (L ++ [(key, gone, k, n, s)]) t _ _ u h hb7, by rintro t' ⟨⟩; rfl⟩))
            | 7, ho =>
              obtain rfl := Option.some.inj ho
              obtain ⟨_, h45, rfl⟩ := given_fed hg 45 (by decide +kernel)
              clear hg
              have n8 : done 8 = false := by cases h : done 8 with | false => rfl | true => have := hsh 8 7 h (by decide +kernel); rw [hnot] at this; cases this
              have n11 : done 11 = false := by cases h : done 11 with | false => rfl | true => have := hsh 11 7 h (by decide +kernel); rw [hnot] at this; cases this
              have hb7 : Below w6.heap.size w6 (w6.alloc (.cells (rc5 (key, gone, k, n, s)).toArray 33)) := (Below.refl _ _).alloc (Nat.le_refl _) _
              have hvl := fun g (hg : Value.ownBlock (.slice av L.length cap) = some g) => (World.ownsRow.lt HO7.out g hg).2
              have hsz := (hI.1 n8).size
              exact st_yield ho (wanted_none rfl) (.slice (some ⟨w6.heap.size, 0, none⟩) 1 1) (w6.alloc (.cells (rc5 (key, gone, k, n, s)).toArray 33)) (by simp [execOp, Act.eval, h45, rc5, go_sem]) ⟨_, rfl, hI.more (by decide) (by decide) n8 n11 hb7, fun t u _ h => VLp_below p w7.drew.heap.size B (.slice av L.length cap) (key, gone, k, n, s) (L ++ [(key, gone, k, n, s)]) t _ _ u h hb7, by rintro t' ⟨⟩; exact ⟨w6.heap.size, rfl, heap_alloc_new w6 _, fun e => by have := hvl _ e; simp at hsz; omega⟩⟩
            | 8, ho =>
              obtain rfl := Option.some.inj ho
              obtain ⟨_, h43, rfl⟩ := given_fed hg 43 (by decide +kernel)
              obtain ⟨v46, h46, p46⟩ := given_fed hg 46 (by decide +kernel)
              clear hg
              have n11 : done 11 = false := by cases h : done 11 with | false => rfl | true => have := hsh 11 8 h (by decide +kernel); rw [hnot] at this; cases this
              have hb6 := hI.1 hnot
              obtain ⟨g, rfl, hg46, hne46⟩ := p46
              have hown : K5.O w6 B (.slice av L.length cap) L := OwnRec.below (w := w7.drew) HO7.out hb6
              refine st_list ho (wanted_none rfl) (fun Q' hQ => ?_)
              refine K5_ok.appendW rfl (.tmp 43) (.tmp 46) rfl B (.slice av L.length cap) (.slice (some ⟨g, 0, none⟩) 1 1) L [(key, gone, k, n, s)] (by simp [Act.eval, h43]) (by simp [Act.eval, h46]) hown (K5.row1 hg46) (by simp) (by have := HL1.out; simp; omega) (by have := HBS.out; have := hb6.size; simp at this; omega) ?_
              intro v7 w8 ho7 hg7 hn7
              refine wpList_nil (hQ _ _ ⟨v7, rfl, hI.grown hnot n11 hg7, fun t u hw hV => ?_, ?_⟩)
              · exact VLp_grown p w7.drew.heap.size B (.slice av L.length cap) (key, gone, k, n, s) (L ++ [(key, gone, k, n, s)]) t _ _ u (by rintro rfl; exact not_wrote (i := 8) (by rfl) hnot hw) hg7 hV
              · rintro t' ⟨⟩
                exact ⟨ho7, hn7.imp id fun h q hq => Nat.le_trans hb6.size (h q hq)⟩
            | 9, ho =>
              obtain rfl := Option.some.inj ho
              obtain ⟨_, h39, rfl⟩ := given_fed hg 39 (by decide +kernel)
              clear hg
              exact st_yield ho (wanted_none rfl) (.pointer (some ⟨p, 0, none⟩)) w6 (by simp [execOp, Act.eval, h39, go_sem]) ⟨_, rfl, hI.keep (by decide) (by decide), fun _ _ _ h => h, by rintro t' ⟨⟩; rfl⟩
            | 10, ho =>
              obtain rfl := Option.some.inj ho
              obtain ⟨_, h48, rfl⟩ := given_fed hg 48 (by decide +kernel)
              clear hg
              exact st_yield ho (wanted_none rfl) (.pointer (some ⟨p, 1, none⟩)) w6 (by simp [execOp, Act.eval, h48, go_sem]) ⟨_, rfl, hI.keep (by decide) (by decide), fun _ _ _ h => h, by rintro t' ⟨⟩; rfl⟩
            | 11, ho =>
              obtain rfl := Option.some.inj ho
              obtain ⟨_, h49, rfl⟩ := given_fed hg 49 (by decide +kernel)
              obtain ⟨v47, h47, p47⟩ := given_fed hg 47 (by decide +kernel)
              clear hg
              have d8 := hr 8 (by decide +kernel)
              have hg6 := hI.2.1 d8 hnot
              have hp6 : w6.heap[p]? = some (.cells #[.pointer (some ⟨d, 0, none⟩), (.slice av L.length cap)] 54 (0, 0)) := (hg6.block p (Array.getElem?_eq_some_iff.1 HP7.out).1 (fun e => HPV.out e.symm)).trans HP7.out
              have hfz : w6.frozen? ⟨p, 1, none⟩ = false := frozen_of_row w6 p 1 _ _ hp6
              have k0 : w6.cell? ⟨p, 1, none⟩ = some (.slice av L.length cap) := by rw [cell_of_row w6 p 1 _ _ _ hp6]; rfl
              obtain ⟨y1, y2, y3, rfl⟩ := own_slice p47.1
              exact st_done ho (wanted_none rfl) (w6.setCell ⟨p, 1, none⟩ (.slice y1 y2 y3)) (by simp [execOp, Act.eval, h47, h49, go_sem, hfz, k0]) ⟨_, rfl, hI.stored d8 hnot p47.1 p47.2, fun t u _ hV => VLp_set p w7.drew.heap.size B (.slice av L.length cap) (key, gone, k, n, s) (L ++ [(key, gone, k, n, s)]) w6 hp6 _ t u hV, by rintro t' ⟨⟩⟩
            | n + 12, ho => simp at ho
          · intro f w8 done hall hI hv
            obtain ⟨w9, v9, rfl, hg9, ho9, hn9⟩ := hI.2.2 (hall 11 (by decide))
            have HFIN := Go.Lib.hid (HGR.out w6 w7.drew w9 v9 HL6.out ⟨HOFF.out.os, (by have := HOFF.out.tape; simpa using this), HOFF.out.output, HOFF.out.size, HOFF.out.block⟩ (by obtain ⟨T, hc, hf⟩ := HCK.out; exact ⟨T, hc.same rfl, hf⟩) hg9 ho9 HNO.out HP1.out)
            have HN9 := Go.Lib.hid hn9
            clear hv hall hI hg9 ho9 hn9 HGR HCK HO7 HP7 HA7
            unfold putAll
            simp only [List.foldl]
            go_simp
            go_wp2_with fail
            go_ret
            obtain ⟨h1, h2⟩ := HE.out
            rw [h1, h2]
            refine ⟨rfl, ⟨_, HFIN.out.1, ?_⟩, (Off3.of_below HB6.out).trans (r1 := _) HFIN.out.2 (.inl rfl)⟩
            rcases HN9.out with h | h
            · exact .inl h
            · exact .inr fun q hq => by have h1 := h q hq; have h2 := HB6.out.size; have h3 := HOFF.out.size; simp at h1; omega
  · have hE : putE L (key, gone, k, n, s) = 1 ∧ putN L (key, gone, k, n, s) = L := by
      have : mayT (key, gone, k, n, s) = false := by rw [hmx]; simpa using hm
      unfold putE putN
      simp [this]
    obtain ⟨h1, h2⟩ := hE
    rw [h1, h2]
    have H := Go.Lib.hid h
    have hm : mayRec key gone k n s = false := by simpa using hm
    have hb1 := below_one w (.cells #[.string key, .bool gone, .int .i64 k, .int .i64 n, .string s] 33)
    rw [hm] at CM
    unfold recV at CM ⊢
    clear hk hs hmx hm h h1 h2
    go_enter Tryz.func12, Tryz.ntmps12
    go_wp2_with fail
    refine (CM.out _).mono ?_
    rintro e w1 ⟨rfl, hc⟩
    have hbb := hb1.trans (hc.mono hb1.size)
    clear hc hb1 CM
    go_wp2_with fail
    go_ret
    exact ⟨rfl, ⟨_, H.out.below hbb, .inl rfl⟩, Off3.of_below hbb⟩

end Go.Proofs.YtkddleonmkhaiaaGreat
