/-
  Records by the generic laws of slices (XGenS): their layout.
  Stage 18: Put.
  Stage 18: Of.
  What the library's slices.Sorted gives of maps.Keys of a map: its keys, sorted, in a slice of their own (the library's contracts laid at this program; made by gen/SortL.py).
  Package record: contract of Newest.
  Stage 18: Get, Slot, Reads, List.
  Stage 18: room for few; the law's begun.
-/
import Derived.Test.YtkpbbjappndddaaGreatM05
import Derived.Test.YtkpbbjappndddaaGreatM07
import Derived.Test.YtkpbbjappndddaaGreatM08
import Derived.Test.YtkpbbjappndddaaGreatM09
import Derived.Test.YtkpbbjappndddaaGreatM06
import Derived.LoopTactic
import Derived.Shelf.SlGeneric
import Derived.Shelf.SlIter.Nil
import Derived.Shelf.SortM.Plain
import Derived.Shelf.SortM.SortNone
import Derived.Ground.GgzProg
import Derived.Ground.SlgmProg
import Derived.Test.YtkpbbjappndddaaGreatProg
import Derived.Test.YtkpbbjappndddaaGreatM04
import Derived.Carry
namespace Go.Proofs.YtkpbbjappndddaaGreat
open Go.RowKit

def K5 : Lay RecT := ⟨rc5, 5, 33, 22, .agg #[.string ⟨#[]⟩, .bool false, .int .i64 0, .int .i64 0, .string ⟨#[]⟩], 56⟩
theorem K5_ok : K5.Ok Tryz.prog := ⟨by decide, fun _ => rfl, fun x u hu => by
  have hu : u ∈ rc5 x := hu
  simp only [rc5, List.mem_cons, List.not_mem_nil, or_false] at hu
  rcases hu with rfl | rfl | rfl | rfl | rfl <;> rfl, Tryz.underlying22, info5, rfl, by decide⟩
theorem own5 {w : World} {B : Nat} {v : Value} {L : List RecT} : OwnRec w B v L = K5.O w B v L := rfl
theorem K5.row1 {w : World} {g : Nat} {x : RecT} {t : TypeId} {fr : Nat × Nat} (h : w.heap[g]? = some (.cells (rc5 x).toArray t fr)) : K5.R w (.slice (some ⟨g, 0, none⟩) 1 1) [x] := by
  refine ⟨some ⟨g, 0, none⟩, 1, rfl, Nat.le_refl _, by simp [maxLen], (fun h => by cases h), fun _ => ⟨g, 0, rfl, fun j u hj => ?_⟩⟩
  rw [cell_of_row _ g (0 + j) _ _ _ h, Nat.zero_add, List.getElem?_toArray]
  rw [Lay.flat_cons, Lay.flat_nil, List.append_nil] at hj
  exact hj
theorem own_form {w : World} {B : Nat} {v : Value} {L : List RecT} (h : OwnRec w B v L) (hl : L ≠ []) : ∃ g cap, v = .slice (some ⟨g, 0, none⟩) L.length cap ∧ g < w.heap.size := by
  obtain ⟨g, cap, h1, -, h2, -⟩ := Lay.O.form (K := K5) h hl
  exact ⟨g, cap, h1, h2⟩
theorem own_slice {w : World} {B : Nat} {v : Value} {L : List RecT} (h : OwnRec w B v L) : ∃ a n c, v = .slice a n c := by
  obtain ⟨a, cap, rfl, -⟩ := h.rs.form
  exact ⟨_, _, _, rfl⟩

end Go.Proofs.YtkpbbjappndddaaGreat

namespace Go.Proofs.YtkpbbjappndddaaGreat
open Go.RowKit

/-- What Put answers, what is kept. -/
def putE (L : List RecT) (x : RecT) : Int := if mayT x then (if roomR L x.1 then 0 else 5) else 1
def putN (L : List RecT) (x : RecT) : List RecT := if mayT x && roomR L x.1 then putL L x else L

theorem setCells_heap : ∀ (vs : List Value) (w : World) (b o k : Nat), k ≠ b → (w.setCells b o vs).heap[k]? = w.heap[k]?
  | [], w, b, o, k, _ => rfl
  | v :: r, w, b, o, k, hn => by rw [World.setCells, setCells_heap r _ _ _ _ hn]; exact Below.heap_setCell _ _ _ _ hn
theorem setCells_rest : ∀ (vs : List Value) (w : World) (b o : Nat), (w.setCells b o vs).os = w.os ∧ (w.setCells b o vs).tape = w.tape ∧ (w.setCells b o vs).output = w.output ∧ (w.setCells b o vs).heap.size = w.heap.size
  | [], w, b, o => ⟨rfl, rfl, rfl, rfl⟩
  | v :: r, w, b, o => by
    rw [World.setCells]
    obtain ⟨h1, h2, h3, h4⟩ := setCells_rest r (w.setCell ⟨b, o, none⟩ v) b (o + 1)
    exact ⟨h1, h2, h3, h4.trans (by simp [World.setCell])⟩

/-- A record in place of another one of its key. -/
theorem LG.stored {w : World} {B p d g n cap : Nat} {L : List RecT} (h : LG w B p d (.slice (some ⟨g, 0, none⟩) n cap) L) {i : Nat} (hi : i < L.length) {x : RecT} (hx : x.1 = L[i].1) (hm : mayT x = true) :
    LG (w.setCells g (i * 5) (rc5 x)) B p d (.slice (some ⟨g, 0, none⟩) n cap) (L.set i x) ∧ Off3 p d (some g) w (w.setCells g (i * 5) (rc5 x)) := by
  have hpg : p ≠ g := fun e => h.pv (by rw [e]; rfl)
  have hdg : d ≠ g := fun e => h.dv (by rw [e]; rfl)
  obtain ⟨T, hc, hf⟩ := h.ck
  have hk : keyR x = keyR L[i] := by unfold keyR; rw [hx]
  obtain ⟨r1, r2, r3, r4⟩ := setCells_rest (rc5 x) w g (i * 5)
  refine ⟨⟨h.bp, h.bd, (setCells_heap _ _ _ _ _ hpg).trans h.row, ⟨T, hc.same (setCells_heap _ _ _ _ _ hdg), ?_⟩, (Lay.O.store (K := K5) h.own K5_ok i hi x).1, h.keys.set hi hk, ?_⟩, ⟨r1, r2, r3, by omega, fun k _ _ _ hn => setCells_heap _ _ _ _ _ (fun e => hn (by rw [e]))⟩⟩
  · rw [esL_set hi (by unfold hR; rw [hx])]
    exact hf
  · intro y hy
    rcases List.mem_or_eq_of_mem_set hy with hy | rfl
    · exact h.may y hy
    · exact hm
theorem there5 {w : World} {B p d g n cap : Nat} {L : List RecT} (h : LG w B p d (.slice (some ⟨g, 0, none⟩) n cap) L) {i : Nat} (hi : i < L.length) : w.there g (i * 5) 5 := Lay.O.there (K := K5) h.own K5_ok i hi
/-- A record more. -/
theorem LG.grown {w w1 w2 : World} {B p d : Nat} {v v' : Value} {L : List RecT} (h : LG w B p d v L) {x : RecT} (ho : Off1 d w w1) (hck : ∃ T, CK w1 d T ∧ Fits T (esL L ++ [(hashS x.1, (L.length : Int))])) (hg : w1.grownBy w2 v.ownBlock) (hown : OwnRec w2 B v' (L ++ [x])) (hnew : ∀ y ∈ L, y.1 ≠ x.1) (hm : mayT x = true) :
    LG (w2.setCell ⟨p, 1, none⟩ v') B p d v' (L ++ [x]) ∧ Off3 p d v.ownBlock w (w2.setCell ⟨p, 1, none⟩ v') := by
  have hp1 : w1.heap[p]? = some (.cells #[.pointer (some ⟨d, 0, none⟩), v] 54 (0, 0)) := (ho.block p h.plt h.pd).trans h.row
  have hp2 : w2.heap[p]? = some (.cells #[.pointer (some ⟨d, 0, none⟩), v] 54 (0, 0)) := (hg.block p (Array.getElem?_eq_some_iff.1 hp1).1 (fun e => h.pv e.symm)).trans hp1
  obtain ⟨T, hc, hf⟩ := hck
  have hd2 : CK w2 d T := hc.same (hg.block d hc.lt (fun e => h.dv e.symm))
  have hsame : ∀ k, k ≠ p → (w2.setCell ⟨p, 1, none⟩ v').heap[k]? = w2.heap[k]? := fun k hn => Below.heap_setCell _ _ _ _ hn
  have hkey : ∀ y ∈ L, keyR y ≠ keyR x := fun y hy e => hnew y hy (keyR_eq.1 e)
  refine ⟨⟨h.bp, h.bd, ?_, ⟨T, hd2.same (hsame d (fun e => h.pd e.symm)), by rw [esL_snoc]; exact hf⟩, own_same hown fun g cs fr hgr _ => hsame g (by rintro rfl; rw [hp2] at hgr; simp only [Option.some.injEq, Obj.cells.injEq] at hgr; exact tLogRec hgr.2.1), h.keys.snoc hkey, ?_⟩, ?_⟩
  · unfold World.setCell
    rw [Array.getElem?_modify, if_pos rfl, hp2]
    rfl
  · intro y hy
    rcases List.mem_append.1 hy with hy | hy
    · exact h.may y hy
    · rw [List.mem_singleton.1 hy]; exact hm
  · refine ⟨(hg.os.trans ho.os), (hg.tape.trans ho.tape), (hg.output.trans ho.output), ?_, fun k hk h1 h2 h3 => ?_⟩
    · have h1 := ho.size
      have h2 := hg.size
      have : (w2.setCell ⟨p, 1, none⟩ v').heap.size = w2.heap.size := by simp [World.setCell]
      omega
    · exact ((hsame k h1).trans (hg.block k (Nat.lt_of_lt_of_le hk ho.size) (fun e => h3 e))).trans (ho.block k hk h2)

/-- Within 'l.recs = append(l.recs, fresh(r))'. -/
def I11 (w0 : World) (B p : Nat) (v1 : Value) (M : List RecT) (done : Nat → Bool) (_a : Act) (w : World) : Prop :=
  (done 8 = false → Below w0.heap.size w0 w) ∧ (done 8 = true → done 11 = false → w0.grownBy w v1.ownBlock) ∧
  (done 11 = true → ∃ w1 v', w = w1.setCell ⟨p, 1, none⟩ v' ∧ w0.grownBy w1 v1.ownBlock ∧ OwnRec w1 B v' M ∧ (v'.ownBlock = v1.ownBlock ∨ ∀ k, v'.ownBlock = some k → w0.heap.size ≤ k))
section
variable {w0 w w' : World} {B p : Nat} {v1 : Value} {M : List RecT} {done : Nat → Bool} {a a' : Act}
theorem I11.start (w0 : World) (B p : Nat) (v1 : Value) (M : List RecT) (a : Act) : I11 w0 B p v1 M (fun _ => false) a w0 := ⟨fun _ => Below.refl _ _, fun h => absurd h (by simp), fun h => absurd h (by simp)⟩
theorem I11.keep (h : I11 w0 B p v1 M done a w) {i : Nat} (h8 : 8 ≠ i) (h11 : 11 ≠ i) : I11 w0 B p v1 M (doneToo done i) a' w := by
  unfold I11
  rw [doneToo_other h8, doneToo_other h11]
  exact h
theorem I11.more (h : I11 w0 B p v1 M done a w) {i : Nat} (h8 : 8 ≠ i) (h11 : 11 ≠ i) (n8 : done 8 = false) (n11 : done 11 = false) (hb : Below w.heap.size w w') : I11 w0 B p v1 M (doneToo done i) a' w' := by
  unfold I11
  rw [doneToo_other h8, doneToo_other h11]
  have h1 := h.1 n8
  exact ⟨fun _ => h1.trans (hb.mono h1.size), fun e => absurd (n8.symm.trans e) (by simp), fun e => absurd (n11.symm.trans e) (by simp)⟩
theorem I11.grown (h : I11 w0 B p v1 M done a w) (n8 : done 8 = false) (n11 : done 11 = false) (hg : w.grownBy w' v1.ownBlock) : I11 w0 B p v1 M (doneToo done 8) a' w' := by
  have h1 := h.1 n8
  refine ⟨fun e => absurd ((doneToo_self done 8).symm.trans e) (by simp), fun _ _ => ?_, fun e => absurd ((doneToo_other (done := done) (i := 8) (j := 11) (by decide)).symm.trans e |>.symm.trans n11) (by simp)⟩
  exact ⟨hg.os.trans h1.os, hg.tape.trans h1.tape, hg.output.trans h1.output, Nat.le_trans h1.size hg.size, fun k hk hn => (hg.block k (Nat.lt_of_lt_of_le hk h1.size) hn).trans (h1.block k hk)⟩
theorem I11.stored (h : I11 w0 B p v1 M done a w) (d8 : done 8 = true) (n11 : done 11 = false) {v' : Value} (ho : OwnRec w B v' M) (hw : v'.ownBlock = v1.ownBlock ∨ ∀ k, v'.ownBlock = some k → w0.heap.size ≤ k) : I11 w0 B p v1 M (doneToo done 11) a' (w.setCell ⟨p, 1, none⟩ v') :=
  ⟨fun e => absurd ((doneToo_other (done := done) (i := 11) (j := 8) (by decide)).symm.trans e |>.symm.trans d8) (by simp), fun _ e => absurd ((doneToo_self done 11).symm.trans e) (by simp), fun _ => ⟨w, v', rfl, h.2.1 d8 n11, ho, hw⟩⟩
end
def VLp (p S B : Nat) (v1 : Value) (x : RecT) (M : List RecT) : Nat → World → Value → Prop
  | 39, _, v => v = .pointer (some ⟨p, 0, none⟩)
  | 40, _, v => v = .pointer (some ⟨p, 0, none⟩)
  | 41, _, v => v = .pointer (some ⟨p, 0, none⟩)
  | 42, _, v => v = .pointer (some ⟨p, 1, none⟩)
  | 43, _, v => v = v1
  | 44, _, v => v = .agg (rc5 x).toArray
  | 45, _, v => v = .agg (rc5 x).toArray
  | 48, _, v => v = .pointer (some ⟨p, 0, none⟩)
  | 49, _, v => v = .pointer (some ⟨p, 1, none⟩)
  | 46, w, v => ∃ g, v = .slice (some ⟨g, 0, none⟩) 1 1 ∧ w.heap[g]? = some (.cells (rc5 x).toArray 33 (0, 0)) ∧ v1.ownBlock ≠ some g
  | 47, w, v => OwnRec w B v M ∧ (v.ownBlock = v1.ownBlock ∨ ∀ k, v.ownBlock = some k → S ≤ k)
  | _, _, _ => True
theorem VLp_below (p S B : Nat) (v1 : Value) (x : RecT) (M : List RecT) : ∀ (i : Nat) (w w' : World) (v : Value), VLp p S B v1 x M i w v → Below w.heap.size w w' → VLp p S B v1 x M i w' v := by
  intro i w w' v h hb
  unfold VLp at h ⊢
  split at h <;> first | exact h | trivial | exact (let ⟨g, h1, h2, h3⟩ := h; ⟨g, h1, (hb.block g (Array.getElem?_eq_some_iff.1 h2).1).trans h2, h3⟩) | exact ⟨h.1.below hb, h.2⟩
theorem VLp_grown (p S B : Nat) (v1 : Value) (x : RecT) (M : List RecT) : ∀ (i : Nat) (w w' : World) (v : Value), i ≠ 47 → w.grownBy w' v1.ownBlock → VLp p S B v1 x M i w v → VLp p S B v1 x M i w' v := by
  intro i w w' v hi hg h
  unfold VLp at h ⊢
  split at h <;> first | exact absurd rfl hi | exact h | trivial | exact (let ⟨g, h1, h2, h3⟩ := h; ⟨g, h1, (hg.block g (Array.getElem?_eq_some_iff.1 h2).1 (fun e => h3 e.symm)).trans h2, h3⟩)
theorem VLp_set (p S B : Nat) (v1 : Value) (x : RecT) (M : List RecT) (w : World) {cs : Array Value} {fr : Nat × Nat} (hp : w.heap[p]? = some (.cells cs 54 fr)) (u : Value) : ∀ (i : Nat) (v : Value), VLp p S B v1 x M i w v → VLp p S B v1 x M i (w.setCell ⟨p, 1, none⟩ u) v := by
  intro i v h
  unfold VLp at h ⊢
  split at h <;> first
    | exact h
    | trivial
    | exact (let ⟨g, h1, h2, h3⟩ := h; ⟨g, h1, (Below.heap_setCell _ _ _ _ (by rintro rfl; rw [hp] at h2; simp only [Option.some.injEq, Obj.cells.injEq] at h2; exact tLogRec h2.2.1)).trans h2, h3⟩)
    | exact ⟨own_same h.1 fun g _ _ hgr _ => Below.heap_setCell _ _ _ _ (by rintro rfl; rw [hp] at hgr; simp only [Option.some.injEq, Obj.cells.injEq] at hgr; exact tLogRec hgr.2.1), h.2⟩

def VL7 (p g len cap iq : Nat) (key : ByteArray) (gone : Bool) (k n : Int) (s : ByteArray) : Nat → World → Value → Prop
  | 17, _, v => v = .pointer (some ⟨p, 0, none⟩)
  | 18, _, v => v = .pointer (some ⟨p, 0, none⟩)
  | 19, _, v => v = .pointer (some ⟨p, 1, none⟩)
  | 20, _, v => v = .slice (some ⟨g, 0, none⟩) len cap
  | 21, _, v => v = .int .i64 (iq : Int)
  | 22, _, v => v = .agg #[.string key, .bool gone, .int .i64 k, .int .i64 n, .string s]
  | 23, _, v => v = .agg #[.string key, .bool gone, .int .i64 k, .int .i64 n, .string s]
  | 24, _, v => v = .pointer (some ⟨g, iq * 5, none⟩)
  | _, _, _ => True

theorem VL7_below (p g len cap iq : Nat) (key : ByteArray) (gone : Bool) (k n : Int) (s : ByteArray) : ∀ (i : Nat) (w w' : World) (v : Value), VL7 p g len cap iq key gone k n s i w v → Below w.heap.size w w' → VL7 p g len cap iq key gone k n s i w' v := by
  intro i w w' v h hb
  unfold VL7 at h ⊢
  split at h <;> first | exact h | trivial | exact h

def VL9 (p d g0 hk len cap : Nat) (av : Option Addr) (key : ByteArray) : Nat → World → Value → Prop
  | 25, _, v => v = .pointer (some ⟨p, 0, none⟩)
  | 26, _, v => v = .pointer (some ⟨p, 0, none⟩)
  | 27, _, v => v = .pointer (some ⟨p, 0, none⟩)
  | 28, _, v => v = .pointer (some ⟨d, 0, none⟩)
  | 29, _, v => v = .pointer (some ⟨g0, 0, none⟩)
  | 30, _, v => v = .string key
  | 31, _, v => v = .int .u64 (hk : Int)
  | 32, _, v => v = .pointer (some ⟨p, 0, none⟩)
  | 33, _, v => v = .pointer (some ⟨p, 0, none⟩)
  | 34, _, v => v = .pointer (some ⟨p, 1, none⟩)
  | 35, _, v => v = .slice av len cap
  | 36, _, v => v = .int .i64 (len : Int)
  | _, _, _ => True

theorem VL9_below (p d g0 hk len cap : Nat) (av : Option Addr) (key : ByteArray) : ∀ (i : Nat) (w w' : World) (v : Value), VL9 p d g0 hk len cap av key i w v → Below w.heap.size w w' → VL9 p d g0 hk len cap av key i w' v := by
  intro i w w' v h hb
  unfold VL9 at h ⊢
  split at h <;> first | exact h | trivial | exact h

set_option maxRecDepth 100000 in
/-- No log; a record that may not be. -/
theorem lnil_put (key : ByteArray) (gone : Bool) (k n : Int) (s : ByteArray) (w : World) :
    Calls Tryz.prog 12 #[.pointer none, recV key gone k n s] w fun e w' => e = .returned (.int .i64 7) ∧ Below w.heap.size w w' := by
  unfold recV
  have hb := below_one w (.cells #[.string key, .bool gone, .int .i64 k, .int .i64 n, .string s] 33)
  go_enter Tryz.func12, Tryz.ntmps12
  go_wp2_with fail
  go_ret
  exact ⟨rfl, hb⟩

set_option maxHeartbeats 4000000 in
set_option maxRecDepth 100000 in
theorem lput_w {w : World} {B p d : Nat} {v : Value} {L : List RecT} (h : LG w B p d v L) (key : ByteArray) (gone : Bool) (k n : Int) (s : ByteArray) (hk : key.size ≤ maxLen) (hs : s.size ≤ maxLen) :
    Calls Tryz.prog 12 #[.pointer (some ⟨p, 0, none⟩), recV key gone k n s] w fun e w' => e = .returned (.int .i64 (putE L (key, gone, k, n, s))) ∧ (∃ v', LG w' B p d v' (putN L (key, gone, k, n, s)) ∧ (v'.ownBlock = v.ownBlock ∨ ∀ k, v'.ownBlock = some k → w.heap.size ≤ k)) ∧ Off3 p d v.ownBlock w w' := by
  have CM := Go.Lib.hid fun W => pmay_c key gone k n s W hk hs
  have hmx : mayT (key, gone, k, n, s) = mayRec key gone k n s := rfl
  by_cases hm : mayRec key gone k n s = true
  · have hsz := mayT_short (x := (key, gone, k, n, s)) (hmx.trans hm)
    have CFI := Go.Lib.hid fun W (hb : Below w.heap.size w W) => lfind_c (h.below hb) key (by have := hsz.1; simp only [] at this; omega)
    have CFR := Go.Lib.hid fun W => lfresh_c key gone k n s W (by have := hsz.1; simp only [] at this; omega) (by have := hsz.2; simp only [] at this; omega)
    have CHO := Go.Lib.hid fun W => hof_k key (hashS key) rfl W (by have := hsz.1; simp only [] at this; omega)
    have H := Go.Lib.hid h
    have HP1 := Go.Lib.hid (show mayT (key, gone, k, n, s) = true from hmx.trans hm)
    have hb1 := below_one w (.cells #[.string key, .bool gone, .int .i64 k, .int .i64 n, .string s] 33)
    have hA := heap_alloc_new w (.cells #[.string key, .bool gone, .int .i64 k, .int .i64 n, .string s] 33)
    rw [hm] at CM
    unfold recV at CM CFR ⊢
    clear hsz hk hs hmx hm h
    go_enter Tryz.func12, Tryz.ntmps12
    go_wp2_with fail
    refine (CM.out _).mono ?_
    rintro e w1 ⟨rfl, hc⟩
    have hA := row_kept hA hc
    have hbb := hb1.trans (hc.mono hb1.size)
    obtain ⟨x0, x1, x2, x3, x4⟩ := row5 hA
    clear hc hb1 CM
    go_wp2_with fail
    refine (CFI.out _ hbb).mono ?_
    rintro e w2 ⟨hor, hc⟩
    have hA := row_kept hA hc
    have hbb := hbb.trans (hc.mono hbb.size)
    clear hc x0 x1 x2 x3 x4 CFI
    obtain ⟨g0, hg0⟩ : ∃ g, g = w.heap.size := ⟨_, rfl⟩
    rw [← hg0] at hA ⊢
    have HG0 := Go.Lib.hid hg0
    clear hg0
    have HBB := Go.Lib.hid hbb
    have HA := Go.Lib.hid hA
    have H2 := Go.Lib.hid (H.out.below hbb)
    clear hbb hA
    rcases hor with ⟨iq, hi, hik, rfl⟩ | ⟨hno, rfl⟩
    · obtain ⟨g, cap, rfl, hglt⟩ := own_form H.out.own (by intro e; rw [e] at hi; simp at hi)
      have HE := Go.Lib.hid (show putE L (key, gone, k, n, s) = 0 ∧ putN L (key, gone, k, n, s) = L.set iq (key, gone, k, n, s) from by
        have hin : roomR L key = true := by
          unfold roomR
          have : findK keyR L key.toList = some L[iq] := (find_iff H.out.keys _ _).2 ⟨List.getElem_mem hi, keyR_eq.2 hik⟩
          rw [this]; rfl
        unfold putE putN
        rw [HP1.out]
        simp only [hin, if_true, Bool.and_self]
        exact ⟨trivial, putL_in H.out.keys hi (keyR_eq.2 hik)⟩)
      have HIK := Go.Lib.hid hik
      have HIX := Go.Lib.hid (run_idx5 g 0 L.length cap iq hi)
      clear hik
      go_upto_region 7 with (fail)
      refine wp_region_head 8 (by decide) (by kernel_rfl) (VL7 p g L.length cap iq key gone k n s) (VL7_below p g L.length cap iq key gone k n s) (by decide +kernel) (by rfl) [17, 18, 19, 20, 21, 22, 23, 24] (by rfl) ?_ ?_
      · intro i o hin ho a w6 hb6 hlen hg
        have x1 := keepC H2.out.cells.2 hb6
        obtain ⟨y0, y1, y2, y3, y4⟩ := row5 (row_kept HA.out hb6)
        have hix := HIX.out w6
        rw [Nat.zero_add] at hix
        match i, hin, ho with
        | 0, hin, ho =>
          obtain rfl := Option.some.inj ho
          have h0 := given_old hg 0 (by decide +kernel)
          clear hg
          exact st_yield ho (wanted_none rfl) (.pointer (some ⟨p, 0, none⟩)) w6 (by simp [execOp, Act.eval, h0, go_sem]) ⟨_, rfl, Below.refl _ _, by rintro t' ⟨⟩; rfl⟩
        | 1, hin, ho =>
          obtain rfl := Option.some.inj ho
          obtain ⟨_, h17, rfl⟩ := given_fed hg 17 (by decide +kernel)
          clear hg
          exact st_yield ho (wanted_none rfl) (.pointer (some ⟨p, 0, none⟩)) w6 (by simp [execOp, Act.eval, h17, go_sem]) ⟨_, rfl, Below.refl _ _, by rintro t' ⟨⟩; rfl⟩
        | 2, hin, ho =>
          obtain rfl := Option.some.inj ho
          obtain ⟨_, h18, rfl⟩ := given_fed hg 18 (by decide +kernel)
          clear hg
          exact st_yield ho (wanted_none rfl) (.pointer (some ⟨p, 1, none⟩)) w6 (by simp [execOp, Act.eval, h18, go_sem]) ⟨_, rfl, Below.refl _ _, by rintro t' ⟨⟩; rfl⟩
        | 3, hin, ho =>
          obtain rfl := Option.some.inj ho
          obtain ⟨_, h19, rfl⟩ := given_fed hg 19 (by decide +kernel)
          clear hg
          exact st_yield ho (wanted_none rfl) (.slice (some ⟨g, 0, none⟩) L.length cap) w6 (by simp [execOp, Act.eval, h19, go_sem, x1]) ⟨_, rfl, Below.refl _ _, by rintro t' ⟨⟩; rfl⟩
        | 4, hin, ho =>
          obtain rfl := Option.some.inj ho
          have h5 := given_old hg 5 (by decide +kernel)
          clear hg
          exact st_yield ho (wanted_none rfl) (.int .i64 (iq : Int)) w6 (by simp [execOp, Act.eval, h5, go_sem]) ⟨_, rfl, Below.refl _ _, by rintro t' ⟨⟩; rfl⟩
        | 5, hin, ho =>
          obtain rfl := Option.some.inj ho
          have h3 := given_old hg 3 (by decide +kernel)
          clear hg
          exact st_yield ho (wanted_none rfl) (.agg #[.string key, .bool gone, .int .i64 k, .int .i64 n, .string s]) w6 (by simp [execOp, Act.eval, h3, go_sem, y0, y1, y2, y3, y4]) ⟨_, rfl, Below.refl _ _, by rintro t' ⟨⟩; rfl⟩
        | 6, hin, ho =>
          obtain rfl := Option.some.inj ho
          obtain ⟨_, h22, rfl⟩ := given_fed hg 22 (by decide +kernel)
          clear hg
          exact st_enter (w1 := w6) ho (wanted_none rfl) 31 #[.agg #[.string key, .bool gone, .int .i64 k, .int .i64 n, .string s]] (by simp [execOp, Act.eval, h22, resolve, go_sem]) ((CFR.out _).mono (by rintro e w7 ⟨rfl, hb7⟩; exact ⟨_, rfl, _, rfl, hb7, by rintro t' ⟨⟩; rfl⟩))
        | 7, hin, ho =>
          obtain rfl := Option.some.inj ho
          obtain ⟨_, h20, rfl⟩ := given_fed hg 20 (by decide +kernel)
          obtain ⟨_, h21, rfl⟩ := given_fed hg 21 (by decide +kernel)
          clear hg
          exact st_yield ho (wanted_none rfl) (.pointer (some ⟨g, iq * 5, none⟩)) w6 (by simp [execOp, Act.eval, h20, h21, go_sem, hix]) ⟨_, rfl, Below.refl _ _, by rintro t' ⟨⟩; rfl⟩
        | n + 8, hin, ho => omega
      · intro f w6 hb6 hv
        have h23 := hv 23 (by decide)
        have h24 := hv 24 (by decide)
        simp only [VL7] at h23 h24
        have HL6 := Go.Lib.hid (H2.out.below hb6)
        have HB6 := Go.Lib.hid (HBB.out.trans (hb6.mono HBB.out.size))
        have HTH := Go.Lib.hid (show w6.there g (iq * 5) (#[.string key, .bool gone, .int .i64 k, .int .i64 n, .string s] : Array Value).size from there5 HL6.out hi)
        have HST := Go.Lib.hid (HL6.out.stored hi (x := (key, gone, k, n, s)) HIK.out.symm HP1.out)
        have hz : g + 0 = g := rfl
        clear hv hb6 HIX CFR CHO
        unfold putAll
        simp only [List.foldl, List.drop]
        simp only [h23, h24]
        clear h23 h24
        go_simp
        go_wp2_with (first
          | (with_reducible show wpList _ _ _ (⟨none, _, _, _, _, _⟩ :: _) _ _; go_loud (refine wpList_store_mid rfl 33 (.tmp 24) (.tmp 23) rfl g (iq * 5) #[.string key, .bool gone, .int .i64 k, .int .i64 n, .string s] rfl rfl HTH.out (by kernel_rfl) (rec_cells_one ..) ?_))
          | fail)
        go_ret
        obtain ⟨h1, h2⟩ := HE.out
        rw [h1, h2]
        exact ⟨rfl, ⟨_, HST.out.1, .inl rfl⟩, (Off3.of_below HB6.out).trans (r1 := some g) HST.out.2 (.inl rfl)⟩
    · have HFD := Go.Lib.hid (show findK keyR L key.toList = none from (find_none _).2 fun x hx e => hno x hx (keyR_eq.1 e))
      have HNO := Go.Lib.hid hno
      obtain ⟨x20, x21⟩ := H2.out.cells
      obtain ⟨av, cap, rfl, hlm⟩ := H.out.own.rs.form
      have X0 := Go.Lib.hid x20
      have X1 := Go.Lib.hid x21
      clear hno x20 x21
      cases hr : roomB (L.map hR ++ [hashS key]) with
      | false =>
        have HE := Go.Lib.hid (show putE L (key, gone, k, n, s) = 5 ∧ putN L (key, gone, k, n, s) = L from by
          have hin : roomR L key = false := by
            unfold roomR
            rw [HFD.out, hr]; rfl
          unfold putE putN
          rw [HP1.out]
          simp [hin])
        have CI := Go.Lib.hid fun W (hb : Below w2.heap.size w2 W) => (show Calls Tryz.prog 32 #[.pointer (some ⟨d, 0, none⟩), .int .u64 (hashS key : Int), .int .i64 (L.length : Int)] W fun e w' => e = .returned (.bool false) ∧ Below W.heap.size W w' from by
          obtain ⟨T, hc, hf⟩ := (H2.out.below hb).ck
          exact cinsert_no hc hf (hashS_lt key) (by have := H.out.len; rw [show (L.length : Int) = wrap64 (L.length : Int) from by unfold wrap64; omega]; exact wrap64_wf _) (by rw [esL_fst, hr]; simp))
        clear hr
        generalize hashS key = hk at *
        go_upto_region 9 with (fail)
        refine wp_region_head 12 (by decide) (by kernel_rfl) (VL9 p d g0 hk L.length cap av key) (VL9_below p d g0 hk L.length cap av key) (by decide +kernel) (by rfl) [25, 26, 27, 28, 29, 30, 31, 32, 33, 34, 35, 36] (by rfl) ?_ ?_
        · intro i o hin ho a w6 hb6 hlen hg
          have x0 := keepC X0.out hb6
          have x1 := keepC X1.out hb6
          obtain ⟨y0, y1, y2, y3, y4⟩ := row5 (row_kept HA.out hb6)
          match i, hin, ho with
          | 0, hin, ho =>
            obtain rfl := Option.some.inj ho
            have h0 := given_old hg 0 (by decide +kernel)
            clear hg
            exact st_yield ho (wanted_none rfl) (.pointer (some ⟨p, 0, none⟩)) w6 (by simp [execOp, Act.eval, h0, go_sem]) ⟨_, rfl, Below.refl _ _, by rintro t' ⟨⟩; rfl⟩
          | 1, hin, ho =>
            obtain rfl := Option.some.inj ho
            obtain ⟨_, h25, rfl⟩ := given_fed hg 25 (by decide +kernel)
            clear hg
            exact st_yield ho (wanted_none rfl) (.pointer (some ⟨p, 0, none⟩)) w6 (by simp [execOp, Act.eval, h25, go_sem]) ⟨_, rfl, Below.refl _ _, by rintro t' ⟨⟩; rfl⟩
          | 2, hin, ho =>
            obtain rfl := Option.some.inj ho
            obtain ⟨_, h26, rfl⟩ := given_fed hg 26 (by decide +kernel)
            clear hg
            exact st_yield ho (wanted_none rfl) (.pointer (some ⟨p, 0, none⟩)) w6 (by simp [execOp, Act.eval, h26, go_sem]) ⟨_, rfl, Below.refl _ _, by rintro t' ⟨⟩; rfl⟩
          | 3, hin, ho =>
            obtain rfl := Option.some.inj ho
            obtain ⟨_, h27, rfl⟩ := given_fed hg 27 (by decide +kernel)
            clear hg
            exact st_yield ho (wanted_none rfl) (.pointer (some ⟨d, 0, none⟩)) w6 (by simp [execOp, Act.eval, h27, go_sem, x0]) ⟨_, rfl, Below.refl _ _, by rintro t' ⟨⟩; rfl⟩
          | 4, hin, ho =>
            obtain rfl := Option.some.inj ho
            have h3 := given_old hg 3 (by decide +kernel)
            clear hg
            exact st_yield ho (wanted_none rfl) (.pointer (some ⟨g0, 0, none⟩)) w6 (by simp [execOp, Act.eval, h3, go_sem]) ⟨_, rfl, Below.refl _ _, by rintro t' ⟨⟩; rfl⟩
          | 5, hin, ho =>
            obtain rfl := Option.some.inj ho
            obtain ⟨_, h29, rfl⟩ := given_fed hg 29 (by decide +kernel)
            clear hg
            exact st_yield ho (wanted_none rfl) (.string key) w6 (by simp [execOp, Act.eval, h29, go_sem, y0]) ⟨_, rfl, Below.refl _ _, by rintro t' ⟨⟩; rfl⟩
          | 6, hin, ho =>
            obtain rfl := Option.some.inj ho
            obtain ⟨_, h30, rfl⟩ := given_fed hg 30 (by decide +kernel)
            clear hg
            exact st_enter (w1 := w6) ho (wanted_none rfl) 33 #[.string key] (by simp [execOp, Act.eval, h30, resolve, go_sem]) ((CHO.out _).mono (by rintro e w7 ⟨rfl, hb7⟩; exact ⟨_, rfl, _, rfl, hb7, by rintro t' ⟨⟩; rfl⟩))
          | 7, hin, ho =>
            obtain rfl := Option.some.inj ho
            have h0 := given_old hg 0 (by decide +kernel)
            clear hg
            exact st_yield ho (wanted_none rfl) (.pointer (some ⟨p, 0, none⟩)) w6 (by simp [execOp, Act.eval, h0, go_sem]) ⟨_, rfl, Below.refl _ _, by rintro t' ⟨⟩; rfl⟩
          | 8, hin, ho =>
            obtain rfl := Option.some.inj ho
            obtain ⟨_, h32, rfl⟩ := given_fed hg 32 (by decide +kernel)
            clear hg
            exact st_yield ho (wanted_none rfl) (.pointer (some ⟨p, 0, none⟩)) w6 (by simp [execOp, Act.eval, h32, go_sem]) ⟨_, rfl, Below.refl _ _, by rintro t' ⟨⟩; rfl⟩
          | 9, hin, ho =>
            obtain rfl := Option.some.inj ho
            obtain ⟨_, h33, rfl⟩ := given_fed hg 33 (by decide +kernel)
            clear hg
            exact st_yield ho (wanted_none rfl) (.pointer (some ⟨p, 1, none⟩)) w6 (by simp [execOp, Act.eval, h33, go_sem]) ⟨_, rfl, Below.refl _ _, by rintro t' ⟨⟩; rfl⟩
          | 10, hin, ho =>
            obtain rfl := Option.some.inj ho
            obtain ⟨_, h34, rfl⟩ := given_fed hg 34 (by decide +kernel)
            clear hg
            exact st_yield ho (wanted_none rfl) (.slice av L.length cap) w6 (by simp [execOp, Act.eval, h34, go_sem, x1]) ⟨_, rfl, Below.refl _ _, by rintro t' ⟨⟩; rfl⟩
          | 11, hin, ho =>
            obtain rfl := Option.some.inj ho
            obtain ⟨_, h35, rfl⟩ := given_fed hg 35 (by decide +kernel)
            clear hg
            exact st_yield ho (wanted_none rfl) (.int .i64 (L.length : Int)) w6 (by simp [execOp, Act.eval, h35, go_sem, resolve]) ⟨_, rfl, Below.refl _ _, by rintro t' ⟨⟩; rfl⟩
          | n + 12, hin, ho => omega
        · intro f w6 hb6 hv
          have h28 := hv 28 (by decide)
          have h31 := hv 31 (by decide)
          have h36 := hv 36 (by decide)
          simp only [VL9] at h28 h31 h36
          have HC := Go.Lib.hid (CI.out w6 hb6)
          have HB6 := Go.Lib.hid (HBB.out.trans (hb6.mono HBB.out.size))
          clear hv hb6 CFR CHO CI
          unfold putAll
          simp only [List.foldl, List.drop]
          simp only [h28, h31, h36]
          clear h28 h31 h36
          go_simp
          go_wp2_with fail
          refine HC.out.mono ?_
          rintro e w7 ⟨rfl, hc⟩
          have HB7 := Go.Lib.hid (HB6.out.trans (hc.mono HB6.out.size))
          clear hc
          go_wp2_with fail
          go_ret
          obtain ⟨h1, h2⟩ := HE.out
          rw [h1, h2]
          exact ⟨rfl, ⟨_, H.out.below HB7.out, .inl rfl⟩, Off3.of_below HB7.out⟩
      | true =>
        have HE := Go.Lib.hid (show putE L (key, gone, k, n, s) = 0 ∧ putN L (key, gone, k, n, s) = L ++ [(key, gone, k, n, s)] from by
          have hin : roomR L key = true := by
            unfold roomR
            rw [HFD.out, hr]; rfl
          unfold putE putN
          rw [HP1.out]
          simp only [hin, if_true, Bool.and_self]
          exact ⟨trivial, putL_new fun y hy e => HNO.out y hy (keyR_eq.1 e)⟩)
        have CI := Go.Lib.hid fun W (hb : Below w2.heap.size w2 W) => (show Calls Tryz.prog 32 #[.pointer (some ⟨d, 0, none⟩), .int .u64 (hashS key : Int), .int .i64 (L.length : Int)] W fun e w' => e = .returned (.bool true) ∧ (∃ T', CK w' d T' ∧ Fits T' (esL L ++ [(hashS key, (L.length : Int))])) ∧ Off1 d W w' from by
          obtain ⟨T, hc, hf⟩ := (H2.out.below hb).ck
          exact cinsert_yes hc hf (hashS_lt key) (by have := H.out.len; unfold idOk; simp; omega) (by rw [esL_fst, hr]))
        have HGR := Go.Lib.hid fun (w' w1 w2 : World) (v' : Value) (h' : LG w' B p d (.slice av L.length cap) L) => @LG.grown w' w1 w2 B p d (.slice av L.length cap) v' L h' (key, gone, k, n, s)
        simp only [] at HGR
        clear hr
        generalize hashS key = hk at *
        go_upto_region 9 with (fail)
        refine wp_region_head 12 (by decide) (by kernel_rfl) (VL9 p d g0 hk L.length cap av key) (VL9_below p d g0 hk L.length cap av key) (by decide +kernel) (by rfl) [25, 26, 27, 28, 29, 30, 31, 32, 33, 34, 35, 36] (by rfl) ?_ ?_
        · intro i o hin ho a w6 hb6 hlen hg
          have x0 := keepC X0.out hb6
          have x1 := keepC X1.out hb6
          obtain ⟨y0, y1, y2, y3, y4⟩ := row5 (row_kept HA.out hb6)
          match i, hin, ho with
          | 0, hin, ho =>
            obtain rfl := Option.some.inj ho
            have h0 := given_old hg 0 (by decide +kernel)
            clear hg
            exact st_yield ho (wanted_none rfl) (.pointer (some ⟨p, 0, none⟩)) w6 (by simp [execOp, Act.eval, h0, go_sem]) ⟨_, rfl, Below.refl _ _, by rintro t' ⟨⟩; rfl⟩
          | 1, hin, ho =>
            obtain rfl := Option.some.inj ho
            obtain ⟨_, h25, rfl⟩ := given_fed hg 25 (by decide +kernel)
            clear hg
            exact st_yield ho (wanted_none rfl) (.pointer (some ⟨p, 0, none⟩)) w6 (by simp [execOp, Act.eval, h25, go_sem]) ⟨_, rfl, Below.refl _ _, by rintro t' ⟨⟩; rfl⟩
          | 2, hin, ho =>
            obtain rfl := Option.some.inj ho
            obtain ⟨_, h26, rfl⟩ := given_fed hg 26 (by decide +kernel)
            clear hg
            exact st_yield ho (wanted_none rfl) (.pointer (some ⟨p, 0, none⟩)) w6 (by simp [execOp, Act.eval, h26, go_sem]) ⟨_, rfl, Below.refl _ _, by rintro t' ⟨⟩; rfl⟩
          | 3, hin, ho =>
            obtain rfl := Option.some.inj ho
            obtain ⟨_, h27, rfl⟩ := given_fed hg 27 (by decide +kernel)
            clear hg
            exact st_yield ho (wanted_none rfl) (.pointer (some ⟨d, 0, none⟩)) w6 (by simp [execOp, Act.eval, h27, go_sem, x0]) ⟨_, rfl, Below.refl _ _, by rintro t' ⟨⟩; rfl⟩
          | 4, hin, ho =>
            obtain rfl := Option.some.inj ho
            have h3 := given_old hg 3 (by decide +kernel)
            clear hg
            exact st_yield ho (wanted_none rfl) (.pointer (some ⟨g0, 0, none⟩)) w6 (by simp [execOp, Act.eval, h3, go_sem]) ⟨_, rfl, Below.refl _ _, by rintro t' ⟨⟩; rfl⟩
          | 5, hin, ho =>
            obtain rfl := Option.some.inj ho
            obtain ⟨_, h29, rfl⟩ := given_fed hg 29 (by decide +kernel)
            clear hg
            exact st_yield ho (wanted_none rfl) (.string key) w6 (by simp [execOp, Act.eval, h29, go_sem, y0]) ⟨_, rfl, Below.refl _ _, by rintro t' ⟨⟩; rfl⟩
          | 6, hin, ho =>
            obtain rfl := Option.some.inj ho
            obtain ⟨_, h30, rfl⟩ := given_fed hg 30 (by decide +kernel)
            clear hg
            exact st_enter (w1 := w6) ho (wanted_none rfl) 33 #[.string key] (by simp [execOp, Act.eval, h30, resolve, go_sem]) ((CHO.out _).mono (by rintro e w7 ⟨rfl, hb7⟩; exact ⟨_, rfl, _, rfl, hb7, by rintro t' ⟨⟩; rfl⟩))
          | 7, hin, ho =>
            obtain rfl := Option.some.inj ho
            have h0 := given_old hg 0 (by decide +kernel)
            clear hg
            exact st_yield ho (wanted_none rfl) (.pointer (some ⟨p, 0, none⟩)) w6 (by simp [execOp, Act.eval, h0, go_sem]) ⟨_, rfl, Below.refl _ _, by rintro t' ⟨⟩; rfl⟩
          | 8, hin, ho =>
            obtain rfl := Option.some.inj ho
            obtain ⟨_, h32, rfl⟩ := given_fed hg 32 (by decide +kernel)
            clear hg
            exact st_yield ho (wanted_none rfl) (.pointer (some ⟨p, 0, none⟩)) w6 (by simp [execOp, Act.eval, h32, go_sem]) ⟨_, rfl, Below.refl _ _, by rintro t' ⟨⟩; rfl⟩
          | 9, hin, ho =>
            obtain rfl := Option.some.inj ho
            obtain ⟨_, h33, rfl⟩ := given_fed hg 33 (by decide +kernel)
            clear hg
            exact st_yield ho (wanted_none rfl) (.pointer (some ⟨p, 1, none⟩)) w6 (by simp [execOp, Act.eval, h33, go_sem]) ⟨_, rfl, Below.refl _ _, by rintro t' ⟨⟩; rfl⟩
          | 10, hin, ho =>
            obtain rfl := Option.some.inj ho
            obtain ⟨_, h34, rfl⟩ := given_fed hg 34 (by decide +kernel)
            clear hg
            exact st_yield ho (wanted_none rfl) (.slice av L.length cap) w6 (by simp [execOp, Act.eval, h34, go_sem, x1]) ⟨_, rfl, Below.refl _ _, by rintro t' ⟨⟩; rfl⟩
          | 11, hin, ho =>
            obtain rfl := Option.some.inj ho
            obtain ⟨_, h35, rfl⟩ := given_fed hg 35 (by decide +kernel)
            clear hg
            exact st_yield ho (wanted_none rfl) (.int .i64 (L.length : Int)) w6 (by simp [execOp, Act.eval, h35, go_sem, resolve]) ⟨_, rfl, Below.refl _ _, by rintro t' ⟨⟩; rfl⟩
          | n + 12, hin, ho => omega
        · intro f w6 hb6 hv
          have h28 := hv 28 (by decide)
          have h31 := hv 31 (by decide)
          have h36 := hv 36 (by decide)
          simp only [VL9] at h28 h31 h36
          have HC := Go.Lib.hid (CI.out w6 hb6)
          have HB6 := Go.Lib.hid (HBB.out.trans (hb6.mono HBB.out.size))
          have HL6 := Go.Lib.hid (H2.out.below hb6)
          have HA6 := Go.Lib.hid (row_kept HA.out hb6)
          clear hv hb6 CHO CI
          unfold putAll
          simp only [List.foldl, List.drop]
          simp only [h28, h31, h36]
          clear h28 h31 h36
          go_simp
          go_wp2_with fail
          refine HC.out.mono ?_
          rintro e w7 ⟨rfl, hck, hoff⟩
          have HA7 := Go.Lib.hid (show w7.heap[g0]? = some (.cells #[.string key, .bool gone, .int .i64 k, .int .i64 n, .string s] 33 (0, 0)) from (hoff.block g0 (Array.getElem?_eq_some_iff.1 HA6.out).1 (by have := H.out.dlt; have := HG0.out; omega)).trans HA6.out)
          have HP7 := Go.Lib.hid (show w7.heap[p]? = some (.cells #[.pointer (some ⟨d, 0, none⟩), .slice av L.length cap] 54 (0, 0)) from (hoff.block p HL6.out.plt HL6.out.pd).trans HL6.out.row)
          have HO7 := Go.Lib.hid (show OwnRec w7 B (.slice av L.length cap) L from own_same HL6.out.own fun q _ _ hq hqv => hoff.block q (Array.getElem?_eq_some_iff.1 hq).1 (by rintro rfl; exact HL6.out.dv hqv))
          have HOFF := Go.Lib.hid hoff
          have HCK := Go.Lib.hid hck
          have HBS := Go.Lib.hid (show B ≤ w7.heap.size from by have := HL6.out.Ble; have := hoff.size; omega)
          have HPV := Go.Lib.hid H.out.pv
          have HL1 := Go.Lib.hid H.out.len
          clear hoff hck HC HA6 X0 X1 HA
          go_upto_region 11 with (fail)
          refine wp_region_inv3 (by kernel_rfl) (VLp p w7.drew.heap.size B (.slice av L.length cap) (key, gone, k, n, s) (L ++ [(key, gone, k, n, s)])) (I11 w7.drew B p (.slice av L.length cap) (L ++ [(key, gone, k, n, s)])) (by decide +kernel) (by decide +kernel) (by rfl) [39, 40, 41, 42, 43, 44, 45, 46, 47, 48, 49] (by rfl) (I11.start _ _ _ _ _ _) ?_ ?_
          · intro i o ho a6 w6 done hI hnot hr hsh hlen hg
            match i, ho with
            | 0, ho =>
              obtain rfl := Option.some.inj ho
              have h0 := given_old hg 0 (by decide +kernel)
              clear hg
              exact st_yield ho (wanted_none rfl) (.pointer (some ⟨p, 0, none⟩)) w6 (by simp [execOp, Act.eval, h0, go_sem]) ⟨_, rfl, hI.keep (by decide) (by decide), fun _ _ _ h => h, by rintro t' ⟨⟩; rfl⟩
            | 1, ho =>
              obtain rfl := Option.some.inj ho
              have h0 := given_old hg 0 (by decide +kernel)
              clear hg
              exact st_yield ho (wanted_none rfl) (.pointer (some ⟨p, 0, none⟩)) w6 (by simp [execOp, Act.eval, h0, go_sem]) ⟨_, rfl, hI.keep (by decide) (by decide), fun _ _ _ h => h, by rintro t' ⟨⟩; rfl⟩
            | 2, ho =>
              obtain rfl := Option.some.inj ho
              obtain ⟨_, h40, rfl⟩ := given_fed hg 40 (by decide +kernel)
              clear hg
              exact st_yield ho (wanted_none rfl) (.pointer (some ⟨p, 0, none⟩)) w6 (by simp [execOp, Act.eval, h40, go_sem]) ⟨_, rfl, hI.keep (by decide) (by decide), fun _ _ _ h => h, by rintro t' ⟨⟩; rfl⟩
            | 3, ho =>
              obtain rfl := Option.some.inj ho
              obtain ⟨_, h41, rfl⟩ := given_fed hg 41 (by decide +kernel)
              clear hg
              exact st_yield ho (wanted_none rfl) (.pointer (some ⟨p, 1, none⟩)) w6 (by simp [execOp, Act.eval, h41, go_sem]) ⟨_, rfl, hI.keep (by decide) (by decide), fun _ _ _ h => h, by rintro t' ⟨⟩; rfl⟩
            | 4, ho =>
              obtain rfl := Option.some.inj ho
              obtain ⟨_, h42, rfl⟩ := given_fed hg 42 (by decide +kernel)
              clear hg
              have n8 : done 8 = false := by cases h : done 8 with | false => rfl | true => have := hsh 8 4 h (by decide +kernel); rw [hnot] at this; cases this
              have x1 : w6.cell? ⟨p, 1, none⟩ = some (.slice av L.length cap) := by rw [cell_of_row w6 p 1 _ _ _ (((hI.1 n8).block p (Array.getElem?_eq_some_iff.1 HP7.out).1).trans HP7.out)]; rfl
              exact st_yield ho (wanted_none rfl) (.slice av L.length cap) w6 (by simp [execOp, Act.eval, h42, go_sem, x1]) ⟨_, rfl, hI.keep (by decide) (by decide), fun _ _ _ h => h, by rintro t' ⟨⟩; rfl⟩
            | 5, ho =>
              obtain rfl := Option.some.inj ho
              have h3 := given_old hg 3 (by decide +kernel)
              clear hg
              have n8 : done 8 = false := by cases h : done 8 with | false => rfl | true => have := hsh 8 5 h (by decide +kernel); rw [hnot] at this; cases this
              obtain ⟨y0, y1, y2, y3, y4⟩ := row5 (((hI.1 n8).block g0 (Array.getElem?_eq_some_iff.1 HA7.out).1).trans HA7.out)
              exact st_yield ho (wanted_none rfl) (.agg #[.string key, .bool gone, .int .i64 k, .int .i64 n, .string s]) w6 (by simp [execOp, Act.eval, h3, go_sem, y0, y1, y2, y3, y4]) ⟨_, rfl, hI.keep (by decide) (by decide), fun _ _ _ h => h, by rintro t' ⟨⟩; rfl⟩
            | 6, ho =>
              obtain rfl := Option.some.inj ho
              obtain ⟨_, h44, rfl⟩ := given_fed hg 44 (by decide +kernel)
              clear hg
              have n8 : done 8 = false := by cases h : done 8 with | false => rfl | true => have := hsh 8 6 h (by decide +kernel); rw [hnot] at this; cases this
              have n11 : done 11 = false := by cases h : done 11 with | false => rfl | true => have := hsh 11 6 h (by decide +kernel); rw [hnot] at this; cases this
              exact st_enter (w1 := w6) ho (wanted_none rfl) 31 #[.agg #[.string key, .bool gone, .int .i64 k, .int .i64 n, .string s]] (by simp [execOp, Act.eval, h44, rc5, resolve, go_sem]) ((CFR.out w6).mono (by rintro e wz ⟨rfl, hb7⟩; exact ⟨_, rfl, _, rfl, hI.more (by decide) (by decide) n8 n11 hb7, fun t u _ h => VLp_below p w7.drew.heap.size B (.slice av L.length cap) (key, gone, k, n, s) (L ++ [(key, gone, k, n, s)]) t _ _ u h hb7, by rintro t' ⟨⟩; rfl⟩))
            | 7, ho =>
              obtain rfl := Option.some.inj ho
              obtain ⟨_, h45, rfl⟩ := given_fed hg 45 (by decide +kernel)
              clear hg
              have n8 : done 8 = false := by cases h : done 8 with | false => rfl | true => have := hsh 8 7 h (by decide +kernel); rw [hnot] at this; cases this
              have n11 : done 11 = false := by cases h : done 11 with | false => rfl | true => have := hsh 11 7 h (by decide +kernel); rw [hnot] at this; cases this
              have hb7 : Below w6.heap.size w6 (w6.alloc (.cells (rc5 (key, gone, k, n, s)).toArray 33)) := (Below.refl _ _).alloc (Nat.le_refl _) _
              have hvl := fun g (hg : Value.ownBlock (.slice av L.length cap) = some g) => (World.ownsRow.lt HO7.out g hg).2
              have hsz := (hI.1 n8).size
              exact st_yield ho (wanted_none rfl) (.slice (some ⟨w6.heap.size, 0, none⟩) 1 1) (w6.alloc (.cells (rc5 (key, gone, k, n, s)).toArray 33)) (by simp [execOp, Act.eval, h45, rc5, go_sem]) ⟨_, rfl, hI.more (by decide) (by decide) n8 n11 hb7, fun t u _ h => VLp_below p w7.drew.heap.size B (.slice av L.length cap) (key, gone, k, n, s) (L ++ [(key, gone, k, n, s)]) t _ _ u h hb7, by rintro t' ⟨⟩; exact ⟨w6.heap.size, rfl, heap_alloc_new w6 _, fun e => by have := hvl _ e; simp at hsz; omega⟩⟩
            | 8, ho =>
              obtain rfl := Option.some.inj ho
              obtain ⟨_, h43, rfl⟩ := given_fed hg 43 (by decide +kernel)
              obtain ⟨v46, h46, p46⟩ := given_fed hg 46 (by decide +kernel)
              clear hg
              have n11 : done 11 = false := by cases h : done 11 with | false => rfl | true => have := hsh 11 8 h (by decide +kernel); rw [hnot] at this; cases this
              have hb6 := hI.1 hnot
              obtain ⟨g, rfl, hg46, hne46⟩ := p46
              have hown : K5.O w6 B (.slice av L.length cap) L := OwnRec.below (w := w7.drew) HO7.out hb6
              refine st_list ho (wanted_none rfl) (fun Q' hQ => ?_)
              refine K5_ok.appendW rfl (.tmp 43) (.tmp 46) rfl B (.slice av L.length cap) (.slice (some ⟨g, 0, none⟩) 1 1) L [(key, gone, k, n, s)] (by simp [Act.eval, h43]) (by simp [Act.eval, h46]) hown (K5.row1 hg46) (by simp) (by have := HL1.out; simp; omega) (by have := HBS.out; have := hb6.size; simp at this; omega) ?_
              intro v7 w8 ho7 hg7 hn7
              refine wpList_nil (hQ _ _ ⟨v7, rfl, hI.grown hnot n11 hg7, fun t u hw hV => ?_, ?_⟩)
              · exact VLp_grown p w7.drew.heap.size B (.slice av L.length cap) (key, gone, k, n, s) (L ++ [(key, gone, k, n, s)]) t _ _ u (by rintro rfl; exact not_wrote (i := 8) (by rfl) hnot hw) hg7 hV
              · rintro t' ⟨⟩
                exact ⟨ho7, hn7.imp id fun h q hq => Nat.le_trans hb6.size (h q hq)⟩
            | 9, ho =>
              obtain rfl := Option.some.inj ho
              obtain ⟨_, h39, rfl⟩ := given_fed hg 39 (by decide +kernel)
              clear hg
              exact st_yield ho (wanted_none rfl) (.pointer (some ⟨p, 0, none⟩)) w6 (by simp [execOp, Act.eval, h39, go_sem]) ⟨_, rfl, hI.keep (by decide) (by decide), fun _ _ _ h => h, by rintro t' ⟨⟩; rfl⟩
            | 10, ho =>
              obtain rfl := Option.some.inj ho
              obtain ⟨_, h48, rfl⟩ := given_fed hg 48 (by decide +kernel)
              clear hg
              exact st_yield ho (wanted_none rfl) (.pointer (some ⟨p, 1, none⟩)) w6 (by simp [execOp, Act.eval, h48, go_sem]) ⟨_, rfl, hI.keep (by decide) (by decide), fun _ _ _ h => h, by rintro t' ⟨⟩; rfl⟩
            | 11, ho =>
              obtain rfl := Option.some.inj ho
              obtain ⟨_, h49, rfl⟩ := given_fed hg 49 (by decide +kernel)
              obtain ⟨v47, h47, p47⟩ := given_fed hg 47 (by decide +kernel)
              clear hg
              have d8 := hr 8 (by decide +kernel)
              have hg6 := hI.2.1 d8 hnot
              have hp6 : w6.heap[p]? = some (.cells #[.pointer (some ⟨d, 0, none⟩), (.slice av L.length cap)] 54 (0, 0)) := (hg6.block p (Array.getElem?_eq_some_iff.1 HP7.out).1 (fun e => HPV.out e.symm)).trans HP7.out
              have hfz : w6.frozen? ⟨p, 1, none⟩ = false := frozen_of_row w6 p 1 _ _ hp6
              have k0 : w6.cell? ⟨p, 1, none⟩ = some (.slice av L.length cap) := by rw [cell_of_row w6 p 1 _ _ _ hp6]; rfl
              obtain ⟨y1, y2, y3, rfl⟩ := own_slice p47.1
              exact st_done ho (wanted_none rfl) (w6.setCell ⟨p, 1, none⟩ (.slice y1 y2 y3)) (by simp [execOp, Act.eval, h47, h49, go_sem, hfz, k0]) ⟨_, rfl, hI.stored d8 hnot p47.1 p47.2, fun t u _ hV => VLp_set p w7.drew.heap.size B (.slice av L.length cap) (key, gone, k, n, s) (L ++ [(key, gone, k, n, s)]) w6 hp6 _ t u hV, by rintro t' ⟨⟩⟩
            | n + 12, ho => simp at ho
          · intro f w8 done hall hI hv
            obtain ⟨w9, v9, rfl, hg9, ho9, hn9⟩ := hI.2.2 (hall 11 (by decide))
            have HFIN := Go.Lib.hid (HGR.out w6 w7.drew w9 v9 HL6.out ⟨HOFF.out.os, (by have := HOFF.out.tape; simpa using this), HOFF.out.output, HOFF.out.size, HOFF.out.block⟩ (by obtain ⟨T, hc, hf⟩ := HCK.out; exact ⟨T, hc.same rfl, hf⟩) hg9 ho9 HNO.out HP1.out)
            have HN9 := Go.Lib.hid hn9
            clear hv hall hI hg9 ho9 hn9 HGR HCK HO7 HP7 HA7
            unfold putAll
            simp only [List.foldl]
            go_simp
            go_wp2_with fail
            go_ret
            obtain ⟨h1, h2⟩ := HE.out
            rw [h1, h2]
            refine ⟨rfl, ⟨_, HFIN.out.1, ?_⟩, (Off3.of_below HB6.out).trans (r1 := _) HFIN.out.2 (.inl rfl)⟩
            rcases HN9.out with h | h
            · exact .inl h
            · exact .inr fun q hq => by have h1 := h q hq; have h2 := HB6.out.size; have h3 := HOFF.out.size; simp at h1; omega
  · have hE : putE L (key, gone, k, n, s) = 1 ∧ putN L (key, gone, k, n, s) = L := by
      have : mayT (key, gone, k, n, s) = false := by rw [hmx]; simpa using hm
      unfold putE putN
      simp [this]
    obtain ⟨h1, h2⟩ := hE
    rw [h1, h2]
    have H := Go.Lib.hid h
    have hm : mayRec key gone k n s = false := by simpa using hm
    have hb1 := below_one w (.cells #[.string key, .bool gone, .int .i64 k, .int .i64 n, .string s] 33)
    rw [hm] at CM
    unfold recV at CM ⊢
    clear hk hs hmx hm h h1 h2
    go_enter Tryz.func12, Tryz.ntmps12
    go_wp2_with fail
    refine (CM.out _).mono ?_
    rintro e w1 ⟨rfl, hc⟩
    have hbb := hb1.trans (hc.mono hb1.size)
    clear hc hb1 CM
    go_wp2_with fail
    go_ret
    exact ⟨rfl, ⟨_, H.out.below hbb, .inl rfl⟩, Off3.of_below hbb⟩

end Go.Proofs.YtkpbbjappndddaaGreat

namespace Go.Proofs.YtkpbbjappndddaaGreat
open Go.RowKit

/-- Puts, one behind the other, up to the first error. -/
def runP : List RecT → List RecT → Int × List RecT
  | L, [] => (0, L)
  | L, x :: t => if putE L x = 0 then runP (putN L x) t else (putE L x, L)
theorem runP_step {L l : List RecT} {k : Nat} (hk : k < l.length) (h0 : putE L l[k] = 0) : runP L (l.drop k) = runP (putN L l[k]) (l.drop (k + 1)) := by
  rw [List.drop_eq_getElem_cons hk, runP, if_pos h0]
theorem runP_stop {L l : List RecT} {k : Nat} (hk : k < l.length) (h0 : putE L l[k] ≠ 0) : runP L (l.drop k) = (putE L l[k], L) := by
  rw [List.drop_eq_getElem_cons hk, runP, if_neg h0]
theorem runP_end (L l : List RecT) : runP L (l.drop l.length) = (0, L) := by rw [List.drop_length]; rfl

/-- What Of answers: a log (from block B on), or none and the error. -/
def OfOut (r : Int × List RecT) (B : Nat) (e : Ending) (w' : World) : Prop :=
  (r.1 = 0 ∧ ∃ p d v, e = .returned (.tuple #[.pointer (some ⟨p, 0, none⟩), .int .i64 0]) ∧ LG w' B p d v r.2) ∨ (r.1 ≠ 0 ∧ e = .returned (.tuple #[.pointer none, .int .i64 r.1]))

set_option maxHeartbeats 1000000 in
set_option maxRecDepth 100000 in
theorem lof_c (v : Value) (l : List RecT) (w : World) (hv : RS w v l) (hs : ∀ x ∈ l, x.1.size ≤ maxLen ∧ x.2.2.2.2.size ≤ maxLen) :
    Calls Tryz.prog 21 #[v] w fun e w' => OfOut (runP [] l) w.heap.size e w' ∧ Below w.heap.size w w' := by
  obtain ⟨a, cap, rfl, hm⟩ := hv.form
  have HR := Go.Lib.hid hv
  have HS := Go.Lib.hid hs
  have CN := Go.Lib.hid (lnew_c w)
  clear hv hs
  go_enter Tryz.func21, Tryz.ntmps21
  go_wp2_with fail
  refine CN.out.mono ?_
  rintro e w1 ⟨p, d, rfl, hLG, hb⟩
  have HL1 := Go.Lib.hid hLG
  have HB1 := Go.Lib.hid hb
  clear hLG hb CN
  go_wp2_with fail
  go_loopw [6, 7, 11] (fun _ _ ki wr => ∃ (k : Nat) (L : List RecT) (u : Value), k ≤ l.length ∧ ki = .int .i64 (k : Int) ∧ Hid (LG wr w.heap.size p d u L) ∧ Hid (runP L (l.drop k) = runP [] l) ∧ Hid (Below w.heap.size w wr)) (fun _ _ ki _ => l.length - (intOf ki).toNat)
  case atStart => exact ⟨0, [], _, by omega, rfl, HL1, Go.Lib.hid (by simp), HB1⟩
  case round =>
    obtain ⟨k, L, u, hk, rfl, HL, HRUN, HB⟩ := hrel
    by_cases hlt : k < l.length
    · obtain ⟨b, o, rfl, -, -, c0, c1, c2, c3, c4⟩ := (HR.out.below HB.out).at k hlt
      have hix := run_idx5 b o l.length cap k hlt
      have hsz := HS.out _ (List.getElem_mem hlt)
      have HST := Go.Lib.hid fun h => (runP_step (L := L) hlt h).symm.trans HRUN.out
      have HSP := Go.Lib.hid fun h => (runP_stop (L := L) hlt h).symm.trans HRUN.out
      generalize l[k] = x at *
      obtain ⟨kx, gx, ax, nx, sx⟩ := x
      simp only [] at c0 c1 c2 c3 c4 hsz
      have hb2 := below_one wr (.cells #[.string kx, .bool gx, .int .i64 ax, .int .i64 nx, .string sx] 33)
      have CP := lput_w (HL.out.below hb2) kx gx ax nx sx hsz.1 hsz.2
      unfold recV at CP
      have CP := Go.Lib.hid CP
      have HB2 := Go.Lib.hid (HB.out.trans (hb2.mono HB.out.size))
      have HL2 := Go.Lib.hid (HL.out.below hb2)
      clear hsz hb2
      go_wp2_with fail
      refine CP.out.mono ?_
      rintro e w2 ⟨rfl, ⟨u2, hlg, -⟩, hoff⟩
      have HL3 := Go.Lib.hid hlg
      have HB3 := Go.Lib.hid (HB2.out.trans (HL2.out.offBelow hoff))
      clear hlg hoff CP c0 c1 c2 c3 c4 hix
      by_cases h0 : putE L (kx, gx, ax, nx, sx) = 0
      · have HN := Go.Lib.hid (HST.out h0)
        rw [h0]
        clear h0 HST HSP
        go_wp2_with fail
        exact ⟨⟨k + 1, _, _, by omega, by go_num, HL3, HN, HB3⟩, by simp only [intOf]; omega⟩
      · have HN := Go.Lib.hid (HSP.out h0)
        obtain ⟨E, hE⟩ : ∃ E, E = putE L (kx, gx, ax, nx, sx) := ⟨_, rfl⟩
        rw [← hE] at h0 HN ⊢
        have hEb : (E == 0) = false := beq_eq_false_iff_ne.2 h0
        have H0 := Go.Lib.hid h0
        clear hE HST HSP
        go_wp2_with fail
        go_ret2
        refine ⟨.inr ?_, HB3.out⟩
        rw [← HN.out]
        exact ⟨H0.out, rfl⟩
    · obtain rfl : k = l.length := by omega
      have HN := Go.Lib.hid ((runP_end L l).symm.trans HRUN.out)
      clear HRUN
      go_wp2_with fail
      go_ret2
      refine ⟨.inl ?_, HB.out⟩
      rw [← HN.out]
      exact ⟨rfl, p, d, u, rfl, HL.out⟩

end Go.Proofs.YtkpbbjappndddaaGreat

namespace Go.Proofs.YtkpbbjappndddaaGreat
open Go.RowKit Go.Maps Go.Sort Go.Shelf
def keysL_ren : Go.Shelf.Ren := ⟨fun | 7 => 60 | 10 => 73 | n => n, fun | 23 => 104 | 26 => 9 | 3 => 3 | 28 => 107 | 0 => 0 | 27 => 106 | 33 => 55 | 4 => 4 | n => n, fun | n => n⟩
theorem keysL : Go.Proofs.SlLaysZ.n7 Tryz.prog keysL_ren := {
  mixed := by kernel_rfl
  f7 := ⟨Tryz.f60.name, by decide, Tryz.func60.trans (congrArg some (by kernel_rfl))⟩
  f10 := ⟨Tryz.f73.name, by decide, Tryz.func73.trans (congrArg some (by kernel_rfl))⟩
  t0 := Tryz.underlying0
  a0 := Tryz.isAgg0
  z0 := Tryz.sizeOf0
  v0 := Tryz.zeroValue0
  t4 := Tryz.underlying4
  a4 := Tryz.isAgg4
  z4 := Tryz.sizeOf4
  v4 := Tryz.zeroValue4
  t23 := Tryz.underlying104
  a23 := Tryz.isAgg104
  z23 := Tryz.sizeOf104
  v23 := Tryz.zeroValue104
  t26 := Tryz.underlying9
  a26 := Tryz.isAgg9
  z26 := Tryz.sizeOf9
  v26 := Tryz.zeroValue9
  t27 := Tryz.underlying106
  a27 := Tryz.isAgg106
  z27 := Tryz.sizeOf106
  v27 := Tryz.zeroValue106
  t28 := Tryz.underlying107
  a28 := Tryz.isAgg107
  z28 := Tryz.sizeOf107
  v28 := Tryz.zeroValue107
  t33 := Tryz.underlying55
  a33 := Tryz.isAgg55
  z33 := Tryz.sizeOf55
  v33 := Tryz.zeroValue55 }
def sortedL_ren : Go.Shelf.Ren := ⟨fun | 6 => 59 | 8 => 71 | 9 => 72 | 11 => 86 | 13 => 70 | 12 => 87 | 23 => 84 | 24 => 85 | 14 => 95 | 15 => 96 | 16 => 97 | 17 => 98 | 18 => 99 | 19 => 100 | 20 => 101 | 21 => 102 | 22 => 103 | 25 => 106 | 26 => 90 | 27 => 91 | 28 => 107 | 29 => 108 | 30 => 109 | 31 => 111 | n => n, fun | 26 => 9 | 28 => 107 | 24 => 103 | 0 => 0 | 3 => 3 | 37 => 86 | 48 => 138 | 50 => 58 | 4 => 4 | 40 => 130 | 39 => 129 | 45 => 135 | 5 => 5 | 9 => 9 | 51 => 141 | 55 => 145 | 57 => 153 | 58 => 93 | 33 => 55 | n => n, fun | n => n⟩
theorem sortedL : Go.Proofs.SlLaysZ.n6 Tryz.prog sortedL_ren := {
  mixed := by kernel_rfl
  f6 := ⟨Tryz.f59.name, by decide, Tryz.func59.trans (congrArg some (by kernel_rfl))⟩
  f8 := ⟨Tryz.f71.name, by decide, Tryz.func71.trans (congrArg some (by kernel_rfl))⟩
  f11 := ⟨Tryz.f86.name, by decide, Tryz.func86.trans (congrArg some (by kernel_rfl))⟩
  t0 := Tryz.underlying0
  a0 := Tryz.isAgg0
  z0 := Tryz.sizeOf0
  v0 := Tryz.zeroValue0
  t24 := Tryz.underlying103
  a24 := Tryz.isAgg103
  z24 := Tryz.sizeOf103
  v24 := Tryz.zeroValue103
  t26 := Tryz.underlying9
  a26 := Tryz.isAgg9
  z26 := Tryz.sizeOf9
  v26 := Tryz.zeroValue9
  t28 := Tryz.underlying107
  a28 := Tryz.isAgg107
  z28 := Tryz.sizeOf107
  v28 := Tryz.zeroValue107
  i26 := by kernel_rfl }
def sortL_ren : Go.Shelf.Ren := ⟨fun | 6 => 72 | 8 => 70 | 9 => 87 | 19 => 84 | 20 => 85 | 21 => 95 | 22 => 96 | 23 => 97 | 24 => 98 | 25 => 99 | 26 => 100 | 27 => 101 | 28 => 102 | 29 => 103 | 36 => 106 | 31 => 90 | 32 => 91 | 37 => 107 | 38 => 108 | 39 => 109 | 41 => 111 | n => n, fun | 27 => 103 | 29 => 9 | 3 => 3 | 32 => 86 | 26 => 103 | 0 => 0 | 44 => 138 | 46 => 58 | 4 => 4 | 36 => 130 | 35 => 129 | 41 => 135 | 5 => 5 | 9 => 9 | 53 => 141 | 57 => 145 | 63 => 153 | 64 => 93 | n => n, fun | n => n⟩
theorem sortL : Go.Proofs.SlLaysM.n6 Tryz.prog sortL_ren := {
  mixed := by kernel_rfl
  f6 := ⟨Tryz.f72.name, by decide, Tryz.func72.trans (congrArg some (by kernel_rfl))⟩
  f8 := Tryz.func70.trans (congrArg some (by kernel_rfl))
  f9 := ⟨Tryz.f87.name, by decide, Tryz.func87.trans (congrArg some (by kernel_rfl))⟩
  f19 := Tryz.func84.trans (congrArg some (by kernel_rfl))
  f20 := Tryz.func85.trans (congrArg some (by kernel_rfl))
  f21 := ⟨Tryz.f95.name, by decide, Tryz.func95.trans (congrArg some (by kernel_rfl))⟩
  f22 := ⟨Tryz.f96.name, by decide, Tryz.func96.trans (congrArg some (by kernel_rfl))⟩
  f23 := ⟨Tryz.f97.name, by decide, Tryz.func97.trans (congrArg some (by kernel_rfl))⟩
  f24 := ⟨Tryz.f98.name, by decide, Tryz.func98.trans (congrArg some (by kernel_rfl))⟩
  f25 := ⟨Tryz.f99.name, by decide, Tryz.func99.trans (congrArg some (by kernel_rfl))⟩
  f26 := ⟨Tryz.f100.name, by decide, Tryz.func100.trans (congrArg some (by kernel_rfl))⟩
  f27 := ⟨Tryz.f101.name, by decide, Tryz.func101.trans (congrArg some (by kernel_rfl))⟩
  f28 := ⟨Tryz.f102.name, by decide, Tryz.func102.trans (congrArg some (by kernel_rfl))⟩
  f29 := ⟨Tryz.f103.name, by decide, Tryz.func103.trans (congrArg some (by kernel_rfl))⟩
  f31 := Tryz.func90.trans (congrArg some (by kernel_rfl))
  f32 := Tryz.func91.trans (congrArg some (by kernel_rfl))
  f36 := ⟨Tryz.f106.name, by decide, Tryz.func106.trans (congrArg some (by kernel_rfl))⟩
  f37 := ⟨Tryz.f107.name, by decide, Tryz.func107.trans (congrArg some (by kernel_rfl))⟩
  f38 := ⟨Tryz.f108.name, by decide, Tryz.func108.trans (congrArg some (by kernel_rfl))⟩
  f39 := ⟨Tryz.f109.name, by decide, Tryz.func109.trans (congrArg some (by kernel_rfl))⟩
  f41 := ⟨Tryz.f111.name, by decide, Tryz.func111.trans (congrArg some (by kernel_rfl))⟩
  t0 := Tryz.underlying0
  a0 := Tryz.isAgg0
  z0 := Tryz.sizeOf0
  v0 := Tryz.zeroValue0
  t3 := Tryz.underlying3
  a3 := Tryz.isAgg3
  z3 := Tryz.sizeOf3
  v3 := Tryz.zeroValue3
  t4 := Tryz.underlying4
  a4 := Tryz.isAgg4
  z4 := Tryz.sizeOf4
  v4 := Tryz.zeroValue4
  t5 := Tryz.underlying5
  a5 := Tryz.isAgg5
  z5 := Tryz.sizeOf5
  v5 := Tryz.zeroValue5
  t9 := Tryz.underlying9
  a9 := Tryz.isAgg9
  z9 := Tryz.sizeOf9
  v9 := Tryz.zeroValue9
  t26 := Tryz.underlying103
  a26 := Tryz.isAgg103
  z26 := Tryz.sizeOf103
  v26 := Tryz.zeroValue103
  t27 := Tryz.underlying103
  a27 := Tryz.isAgg103
  z27 := Tryz.sizeOf103
  v27 := Tryz.zeroValue103
  t29 := Tryz.underlying9
  a29 := Tryz.isAgg9
  z29 := Tryz.sizeOf9
  v29 := Tryz.zeroValue9
  t32 := Tryz.underlying86
  a32 := Tryz.isAgg86
  z32 := Tryz.sizeOf86
  v32 := Tryz.zeroValue86
  t35 := Tryz.underlying129
  a35 := Tryz.isAgg129
  z35 := Tryz.sizeOf129
  v35 := Tryz.zeroValue129
  t36 := Tryz.underlying130
  a36 := Tryz.isAgg130
  z36 := Tryz.sizeOf130
  v36 := Tryz.zeroValue130
  t41 := Tryz.underlying135
  a41 := Tryz.isAgg135
  z41 := Tryz.sizeOf135
  v41 := Tryz.zeroValue135
  t44 := Tryz.underlying138
  a44 := Tryz.isAgg138
  z44 := Tryz.sizeOf138
  v44 := Tryz.zeroValue138
  t46 := Tryz.underlying58
  a46 := Tryz.isAgg58
  z46 := Tryz.sizeOf58
  v46 := Tryz.zeroValue58
  t53 := Tryz.underlying141
  a53 := Tryz.isAgg141
  z53 := Tryz.sizeOf141
  v53 := Tryz.zeroValue141
  t57 := Tryz.underlying145
  a57 := Tryz.isAgg145
  z57 := Tryz.sizeOf145
  v57 := Tryz.zeroValue145
  t63 := Tryz.underlying153
  a63 := Tryz.isAgg153
  z63 := Tryz.sizeOf153
  v63 := Tryz.zeroValue153
  t64 := Tryz.underlying93
  a64 := Tryz.isAgg93
  z64 := Tryz.sizeOf93
  v64 := Tryz.zeroValue93 }

theorem sorts_any (m : Nat) : AnyZ.SortsIn Tryz.prog sortedL_ren Fence.wide m :=
  ⟨fun blk off cap ss W hH hblk hsz => callsIn_wide.2 (AnyM.slices_Sort_string sortL blk off cap ss W hH hblk hsz),
   fun p cap W => callsIn_wide.2 (AnyM.slices_Sort_string_none sortL p cap W)⟩

/-- maps.Keys: a function over a new block that holds the map. -/
theorem mkeys_c (b : Nat) (W : World) : Calls Tryz.prog 60 #[.map (some b)] W fun e w' => e = .returned (.func (.func 73) #[] #[.pointer (some ⟨W.heap.size, 0, none⟩)]) ∧ w' = W.alloc (.cells #[.map (some b)] 104) :=
  callsIn_wide.1 (AnyZ.keys_in keysL Fence.wide 5 trivial rfl (some b) W)

set_option maxHeartbeats 1000000 in
/-- slices.Sorted of what maps.Keys answered. -/
theorem sortedk_c {H : Type} (b nn : Nat) (D0 : DataW H) (R : Value → Option (DataW H × List MemPlace)) (w : World) (hown : w.ownsMap Tryz.prog 9 R b nn D0) (hmax : Maps.size D0 ≤ maxLen) (hbytes : Maps.size D0 * 16 ≤ 140737488355328) :
    Calls Tryz.prog 59 #[.func (.func 73) #[] #[.pointer (some ⟨w.heap.size, 0, none⟩)]] (w.alloc (.cells #[.map (some b)] 104)) fun e w' => ∃ (v : Value) (ss : List (List UInt8)), e = .returned v ∧ ss.Perm (strKeys D0) ∧
      w'.ownsRow (w.alloc (.cells #[.map (some b)] 104)).heap.size 9 1 v ss.length ((ss.mergeSort (fun x y => decide (x ≤ y))).map encStr) ∧ Below (w.alloc (.cells #[.map (some b)] 104)).heap.size (w.alloc (.cells #[.map (some b)] 104)) w' := by
  have hbl := hown.lt
  have hseq : SeqGives Fence.wide 2 Tryz.prog 73 #[.pointer (some ⟨w.heap.size, 0, none⟩)] encStr (fun ss => ss.Perm (strKeys D0)) (Maps.size D0) (w.alloc (.cells #[.map (some b)] 104)) :=
    AnyZ.keys_gives (ρ := keysL_ren) { keysL with } Fence.wide _ trivial rfl (by omega) w.heap.size b nn D0 _ (by simp) (by simp) (by
      obtain ⟨es, clock, hb, Ft, hs, hD⟩ := hown
      exact ⟨es, clock, (Below.heap_alloc _ _ b hbl).trans hb, Ft, hs, hD⟩)
  have h := AnyZ.sorted_in sortedL Fence.wide 5 trivial trivial trivial trivial rfl (by omega) (sorts_any _) (enters_of Tryz.func72 (by kernel_rfl) rfl) 73 #[.pointer (some ⟨w.heap.size, 0, none⟩)] trivial (enters_of Tryz.func73 (by kernel_rfl) rfl) _ _ hmax hbytes _ hseq
  refine (callsIn_wide.1 h).mono ?_
  rintro e w' ⟨v, ss, he, hp, hrow, -, hb⟩
  exact ⟨v, ss, he, hp, hrow, hb⟩

end Go.Proofs.YtkpbbjappndddaaGreat

namespace Go.Proofs.YtkpbbjappndddaaGreat
open Go.RowKit Go.Op Go.Maps Go.WideMaps

theorem mlaw : Keyed Tryz.prog 9 := string_keyed Tryz.underlying9
theorem mzero (w : World) : (zeroValue 3).run Tryz.prog w = .ok (.int .i64 0) w := by kernel_rfl

theorem grown_then {w w1 w2 : World} {row : Option Nat} (h : w.grownBy w1 row) (hb : Below w1.heap.size w1 w2) : w.grownBy w2 row :=
  ⟨hb.os.trans h.os, hb.tape.trans h.tape, hb.output.trans h.output, Nat.le_trans h.size hb.size, fun k hk hne => (hb.block k (Nat.lt_of_lt_of_le hk h.size)).trans (h.block k hk hne)⟩

/-- A sorted row of keys, as the walk reads it. -/
theorem keys_row {w : World} {B n : Nat} {v : Value} {ks : List (List UInt8)} (hn : ks.length = n) (h : w.ownsRow B 9 1 v n (ks.map Go.Proofs.encStr)) :
    ∃ a cap, v = .slice a n cap ∧ ∀ j (hj : j < ks.length), ∃ g, a = some ⟨g, 0, none⟩ ∧ B ≤ g ∧ w.cell? ⟨g, j, none⟩ = some (.string (str ks[j])) := by
  subst hn
  rcases h.2 with ⟨rfl, hz⟩ | ⟨g, cap, cur, rfl, hB, h1⟩
  · obtain rfl : ks = [] := List.eq_nil_of_length_eq_zero hz
    exact ⟨none, 0, rfl, fun j hj => absurd hj (by simp)⟩
  · refine ⟨_, cap, rfl, fun j hj => ⟨g, rfl, hB, ?_⟩⟩
    rw [World.ownsRow.cellAt h j (by omega), List.getElem?_map, List.getElem?_eq_getElem hj]
    rfl

/-- One record in a new block. -/
theorem rc5_new (W : World) (x : RecT) : ∀ (q : Nat) (u : Value), (rc5 x)[q]? = some u → (W.alloc (.cells #[.string x.1, .bool x.2.1, .int .i64 x.2.2.1, .int .i64 x.2.2.2.1, .string x.2.2.2.2] 33)).cell? ((⟨W.heap.size, 0, none⟩ : Addr).add q) = some u := by
  intro q u h
  have hadd : (⟨W.heap.size, 0, none⟩ : Addr).add q = ⟨W.heap.size, 0 + q, none⟩ := by unfold Addr.add; split <;> simp_all
  rw [hadd, Nat.zero_add]
  rw [cell_of_row _ W.heap.size q _ _ _ (heap_alloc_new W (.cells #[.string x.1, .bool x.2.1, .int .i64 x.2.2.1, .int .i64 x.2.2.2.1, .string x.2.2.2.2] 33))]
  rw [← h]
  unfold rc5
  exact List.getElem?_toArray
theorem rc5_one (x : RecT) : ∀ u ∈ rc5 x, u.oneCell' = true := by
  intro u hu
  simp only [rc5, List.mem_cons, List.not_mem_nil, or_false] at hu
  rcases hu with rfl | rfl | rfl | rfl | rfl <;> rfl
theorem own_snoc {w : World} {B j : Nat} {v : Value} {acc : List RecT} {x : RecT} (hal : acc.length = j) (h : w.ownsRow B 33 5 v (j + 1) (flat5 acc ++ rc5 x)) : OwnRec w B v (acc ++ [x]) := by
  subst hal
  unfold OwnRec
  rw [List.length_append]
  unfold flat5 at *
  rw [List.flatMap_append]
  simpa using h

set_option maxHeartbeats 4000000 in
set_option maxRecDepth 100000 in
theorem pnewest_c (v : Value) (l : List RecT) (w : World) (hv : RS w v l) (hl : l.length ≤ 1000) (hs : ∀ x ∈ l, x.1.size ≤ 1000 ∧ x.2.2.2.2.size ≤ 1000) :
    Calls Tryz.prog 41 #[v] w fun e w' => ∃ v', e = .returned v' ∧ OwnRec w' w.heap.size v' (newestR l) ∧ Below w.heap.size w w' := by
  obtain ⟨a, cap, rfl, hm⟩ := hv.form
  have HR := Go.Lib.hid hv; clear hv
  have hmm := @run_makeMap Tryz.prog
  obtain ⟨i5, hi5, hz5, hsz5, hby5⟩ := info_parts info5
  have I5 := Go.Lib.hid (And.intro hi5 (And.intro hz5 (And.intro hsz5 hby5))); clear hi5 hz5 hsz5 hby5
  go_enter Tryz.func41, Tryz.ntmps41
  go_wp2_with fail
  go_loopw [12] (fun i wr => ∃ k : Nat, k ≤ l.length ∧ i = .int .i64 (k : Int) ∧ wr.ownsMap Tryz.prog 9 (plainElem Tryz.prog 3) w.heap.size k (mapD Unit l k) ∧ Below w.heap.size w wr) (fun i _ => l.length - (intOf i).toNat)
  case atStart => exact ⟨0, Nat.zero_le _, rfl, World.ownsMap_made _ _ _ _, (Below.refl _ _).alloc (Nat.le_refl _) _⟩
  case round =>
    obtain ⟨k, hk, rfl, hown, hbc⟩ := hrel
    by_cases hlt : k < l.length
    · obtain ⟨b, o, rfl, -, hbs, c0, c1, c2, c3, c4⟩ := (HR.out.below hbc).at k hlt
      have hx := (hs l[k] (List.getElem_mem hlt)).1
      have Hst := Go.Lib.hid (mapD_succ (H := Unit) k hlt)
      have hix := run_idx5 b o l.length cap k hlt
      generalize l[k] = x at *
      obtain ⟨kx, gx, ax, nx, sx⟩ := x
      simp only [] at c0 c1 c2 c3 c4 hx Hst
      have hkey : keyOf Tryz.prog 9 (.string kx) = some (.string kx.data.toList) := keyOf_string_mk Tryz.underlying9 (by unfold maxLen; omega)
      have hwf : (Lit.int .i64 (k : Int)).wf = true := by
        rw [show (k : Int) = wrap64 (k : Int) from by unfold wrap64; omega]
        exact wrap64_wf _
      have hown2 := hown.alloc (.cells #[.string kx, .bool gx, .int .i64 ax, .int .i64 nx, .string sx] 33)
      have hbc2 := hbc.trans ((below_one wr (.cells #[.string kx, .bool gx, .int .i64 ax, .int .i64 nx, .string sx] 33)).mono hbc.size)
      have Hown := Go.Lib.hid hown2
      have Hk := Go.Lib.hid (And.intro hkey hwf)
      clear hx hown hown2 hkey hwf
      go_wp2_with (first
        | (at_mapUpdate; refine wpList_mapUpdate_own _ rfl _ _ _ 104 rfl 9 3 mlaw Tryz.underlying104 _ w.heap.size k _ rfl Hown.out (by unfold maxLen; omega) _ _ _ rfl rfl Hk.out.1 _ [] (plainElem_int Tryz.underlying3 Hk.out.2) ?_; intro w1 hown1 hgrow1)
        | fail)
      rw [← Hst.out] at hown1
      have hbc3 := hbc2.grown hgrow1 hbc2.size (fun j hj => by cases hj; exact Nat.le_refl _)
      clear hgrow1 Hown Hk Hst c0 c1 c2 c3 c4 hbc hbc2 hix
      go_wp2_with fail
      exact ⟨⟨k + 1, by omega, by go_num, hown1, hbc3⟩, by simp only [intOf]; omega⟩
    · obtain rfl : k = l.length := by omega
      have hsz := hown.size_le
      have hlen := fun ty => hown.len Tryz.underlying104 ty
      have hG0 := hown.lt
      obtain ⟨hnd, hmem⟩ := strKeys_mapD hown mlaw Tryz.underlying9
      have hat := fun k h => mapD_at (H := Unit) (l := l) k l.length (Nat.le_refl _) h
      have hhas := fun k => mapD_has (H := Unit) (l := l) k l.length (Nat.le_refl _)
      rw [List.take_of_length_le (Nat.le_refl _)] at hat hhas
      have hkl : (strKeys (mapD Unit l l.length)).length = Maps.size (mapD Unit l l.length) := by
        obtain ⟨es, hD, -⟩ := hown.entries mlaw
        rw [hD]
        simp [strKeys, Maps.size]
      have hone := fun (j : Nat) (hj : j < l.length) => hs l[j] (List.getElem_mem hj)
      generalize hD : mapD Unit l l.length = D at *
      obtain ⟨M, hM⟩ : ∃ M, M = Maps.size D := ⟨_, rfl⟩
      rw [← hM] at hlen hsz hkl
      have HM := Go.Lib.hid hM; clear hM
      have Hat := Go.Lib.hid hat; clear hat
      have Hhas := Go.Lib.hid hhas; clear hhas
      have Hmem := Go.Lib.hid hmem; clear hmem
      have Hone := Go.Lib.hid hone; clear hone hs
      have Hkl := Go.Lib.hid hkl; clear hkl
      have Hnd := Go.Lib.hid hnd; clear hnd
      clear hD
      go_wp2_with (first
        | (with_reducible show wpList _ _ _ (⟨some 24, _, _, _, _, _⟩ :: _) _ _; go_loud (refine wpList_make_own _ rfl _ _ 22 rfl w.heap.size 33 i5 _ 5 Tryz.underlying22 I5.out.1 I5.out.2.1 I5.out.2.2.1 .i64 .i64 _ M rfl rfl rfl (by rw [I5.out.2.2.2]; omega) (by unfold maxLen; omega) hbc.size ?_); intro w2 hrow2 hg2)
        | fail)
      have hbc2 := hbc.grown hg2 hbc.size (fun j hj => by cases hj)
      have hown2 := hown.kept hg2 (by simp)
      have hG2 := (World.ownsRow.lt hrow2 wr.heap.size rfl).2
      have C2 := Go.Lib.hid (sortedk_c w.heap.size l.length D (plainElem Tryz.prog 3) w2 hown2 (by rw [← HM.out]; unfold maxLen; omega) (by rw [← HM.out]; omega))
      refine (mkeys_c w.heap.size w2).mono ?_
      rintro e w3 ⟨rfl, rfl⟩
      go_wp2_with fail
      refine C2.out.mono ?_
      rintro e w3 ⟨vs, ss, rfl, hp, hks, hb3⟩
      have hnew := newest_of_keys l ss (hp.nodup_iff.2 Hnd.out) (fun k => (hp.mem_iff).trans (Hmem.out k))
      have hml : M = ss.length := Hkl.out.symm.trans hp.length_eq.symm
      have hksl : (ss.mergeSort (fun x y => decide (x ≤ y))).length = M := (List.length_mergeSort ss).trans hml.symm
      have hin : ∀ k ∈ ss.mergeSort (fun x y => decide (x ≤ y)), Maps.has D (.string k) = true := fun k hk => (Hhas.out k).2 ((Hmem.out k).1 (hp.mem_iff.1 ((List.mergeSort_perm ss _).mem_iff.1 hk)))
      rw [← hml] at hks
      have hg3 := grown_then (World.grownBy_alloc w2 (.cells #[.map (some w.heap.size)] 104) none) hb3
      have hown3 := hown2.kept hg3 (by simp)
      have hbc3 := hbc2.grown hg3 hbc2.size (fun j hj => by cases hj)
      have hrec3 : OwnRec w3 w.heap.size (.slice (some ⟨wr.heap.size, 0, none⟩) 0 M) [] := OwnRec.kept (l := []) hrow2 hg3 (.inr (by simp [Value.ownBlock]))
      have hnB : wr.heap.size < (w2.alloc (.cells #[.map (some w.heap.size)] 104)).heap.size := by simp; omega
      generalize ss.mergeSort (fun x y => decide (x ≤ y)) = ks at *
      obtain ⟨a2, cap2, rfl, hrow⟩ := keys_row hksl hks
      have hfit : M ≤ M := Nat.le_refl _
      have Hnew := Go.Lib.hid hnew; clear hnew
      have Hin := Go.Lib.hid hin; clear hin
      have Hrow := Go.Lib.hid hrow; clear hrow
      have Hown3 := Go.Lib.hid hown3; clear hown3
      clear hlen hks hp hb3 hg3 hrow2 hown2 hbc2 hg2 C2 hown hbc hml Hnd Hmem Hhas Hkl hmm hfit
      have hksM := Go.Lib.hid hksl; clear hksl
      generalize wr.heap.size = G0 at *
      go_wp2_with fail
      go_loopw [6, 29] (fun vb i w4 => ∃ j : Nat, j ≤ M ∧ i = .int .i64 (j : Int) ∧ vb = .slice (some ⟨G0, 0, none⟩) j M ∧ OwnRec w4 w.heap.size vb ((ks.take j).map (pickR l)) ∧ w3.grownBy w4 (some G0)) (fun _ i _ => M - (intOf i).toNat)
      case atStart => exact ⟨0, by omega, rfl, rfl, by simpa using hrec3, World.grownBy.refl _ _⟩
      case round =>
        obtain ⟨j, hj, rfl, rfl, hown, hg⟩ := hrel
        by_cases hlt : j < M
        · have hjk : j < ks.length := by rw [hksM.out]; exact hlt
          obtain ⟨g, rfl, hgB, hkc⟩ := Hrow.out j hjk
          have hkc4 := hg.cell hkc (by simp; omega)
          have hown4 := Hown3.out.kept hg (by simp; omega)
          have hb4 := hbc3.grown hg hbc3.size (fun j hj => by cases hj; omega)
          obtain ⟨i, hi, hati, hfind, hkk⟩ := Hat.out ks[j] (Hin.out _ (List.getElem_mem hjk))
          have hones := Hone.out i hi
          have hkeyOf : keyOf Tryz.prog 9 (.string (str ks[j])) = some (.string ks[j]) := by
            have h := keyOf_string_mk (P := Tryz.prog) Tryz.underlying9 (s := str ks[j]) (by
              have h1 := hones.1
              have h2 : ks[j].length = l[i].1.size := by rw [← hkk, keyR_data]; exact Array.length_toList
              rw [str_size, h2]
              unfold maxLen
              omega)
            rw [h]
            simp [str]
          obtain ⟨c, hrun, hatc, -⟩ := hown4.lookup_int mlaw Tryz.underlying104 Tryz.underlying3 (mzero _) hkeyOf
          obtain rfl : (i : Int) = c := by
            have h := (hati (.lit (.int .i64 0))).symm.trans hatc
            injection h with h
            injection h
          have hsn : (ks.take (j + 1)).map (pickR l) = (ks.take j).map (pickR l) ++ [l[i]] := by
            rw [List.take_succ_eq_append_getElem hjk, List.map_append]
            unfold pickR
            simp [hfind]
          have hal : ((ks.take j).map (pickR l)).length = j := by rw [List.length_map, List.length_take]; omega
          obtain ⟨b, o, rfl, -, hbs, c0, c1, c2, c3, c4⟩ := (HR.out.below hb4).at i hi
          have hix := run_idx5 b o l.length cap i hi
          have Hsn := Go.Lib.hid hsn; clear hsn
          generalize (ks.take j).map (pickR l) = acc at *
          clear hatc hati hfind hkk hkeyOf
          generalize l[i] = x at *
          obtain ⟨kx, gx, ax, nx, sx⟩ := x
          simp only [] at c0 c1 c2 c3 c4 hones Hsn
          have C1 := Go.Lib.hid fun W => fresh_c kx gx ax nx sx W (by omega) (by omega)
          unfold recV at C1
          generalize str ks[j] = kj at *
          have Hown := Go.Lib.hid hown; clear hown hown4
          have hgb := Go.Lib.hid hgB
          clear hones
          go_wp2_with fail
          refine (C1.out _).mono ?_
          rintro e w5 ⟨rfl, hc⟩
          have hg5 := grown_then (grown_then hg hc) (below_one w5 (.cells #[.string kx, .bool gx, .int .i64 ax, .int .i64 nx, .string sx] 33))
          have hown5 := (Hown.out.below hc).below (below_one w5 (.cells #[.string kx, .bool gx, .int .i64 ax, .int .i64 nx, .string sx] 33))
          have hrc := rc5_new w5 (kx, gx, ax, nx, sx)
          simp only [] at hrc
          unfold OwnRec at hown5
          rw [hal] at hown5
          have Hg5 := Go.Lib.hid hg5
          have Hrc := Go.Lib.hid hrc
          have Hown5 := Go.Lib.hid hown5
          clear hg5 hown5 hrc hc hg C1 Hown c0 c1 c2 c3 c4 hkc4 hkc hrun hix hb4
          go_wp2_with (first
            | (with_reducible show wpList _ _ _ (⟨some 42, _, _, _, _, _⟩ :: _) _ _; go_loud (refine wpList_append_fits _ rfl (.tmp 33) (.tmp 41) 22 rfl w.heap.size 33 i5 5 Tryz.underlying22 I5.out.1 I5.out.2.2.1 G0 j M (flat5 acc) rfl Hown5.out ⟨w5.heap.size, 0, none⟩ 1 1 (rc5 (kx, gx, ax, nx, sx)) rfl rfl Hrc.out (rc5_one _) (by omega) ?_); intro w6 hown6 hg6)
            | fail)
          have hg7 := Hg5.out.trans hg6
          refine ⟨⟨j + 1, by omega, by go_num, rfl, ?_, hg7⟩, by simp only [intOf]; omega⟩
          rw [Hsn.out]
          exact own_snoc hal hown6
        · obtain rfl : j = M := by omega
          rw [List.take_of_length_le (by rw [hksM.out]; omega), Hnew.out] at hown
          have hb4 := hbc3.grown hg hbc3.size (fun j hj => by cases hj; omega)
          go_wp2_with fail
          go_ret
          exact ⟨_, rfl, hown, hb4⟩

end Go.Proofs.YtkpbbjappndddaaGreat

namespace Go.Proofs.YtkpbbjappndddaaGreat
open Go.RowKit

def nullR : RecT := (⟨#[]⟩, false, 0, 0, ⟨#[]⟩)
/-- A record, if there is one. -/
def outR (o : Option RecT) : Value := .tuple #[recOf (o.getD nullR), .bool o.isSome]
theorem outR_some (x : RecT) : outR (some x) = .tuple #[recOf x, .bool true] := rfl
theorem outR_none : outR none = .tuple #[.agg #[.string ⟨#[]⟩, .bool false, .int .i64 0, .int .i64 0, .string ⟨#[]⟩], .bool false] := rfl

theorem ret_lget_at {w w0 : World} {tmps : Array Value} {key : ByteArray} {gone : Bool} {k n : Int} {s : ByteArray} {g : Nat} {fr : Nat × Nat} {b : Bool} {v : Value}
    (hp : tmps.getD 4 undef = .pointer (some ⟨g, 0, none⟩)) (hg : w.heap[g]? = some (.cells #[.string key, .bool gone, .int .i64 k, .int .i64 n, .string s] 33 fr)) (h3 : tmps.getD 5 undef = .bool b)
    (hr : v = .tuple #[.agg #[.string key, .bool gone, .int .i64 k, .int .i64 n, .string s], .bool b]) (hb : Below w0.heap.size w0 w) : bodyPost Tryz.prog Tryz.f14 (fun e w' => e = .returned v ∧ Below w0.heap.size w0 w') Exit.ret { tmps := tmps, defers := [] } w := by
  subst hr
  have h := results_row_one (P := Tryz.prog) (fn := Tryz.f14) (p := 4) (u := 5) (ty := 33) rfl tmps w g 33 #[.string key, .bool gone, .int .i64 k, .int .i64 n, .string s] fr _ hp hg Tryz.underlying33 rfl (by kernel_rfl)
  rw [h3] at h
  exact bodyPost_ret h rfl ⟨rfl, hb⟩
theorem ret_lslot_at {w w0 : World} {tmps : Array Value} {key : ByteArray} {gone : Bool} {k n : Int} {s : ByteArray} {g : Nat} {fr : Nat × Nat} {b : Bool} {v : Value}
    (hp : tmps.getD 6 undef = .pointer (some ⟨g, 0, none⟩)) (hg : w.heap[g]? = some (.cells #[.string key, .bool gone, .int .i64 k, .int .i64 n, .string s] 33 fr)) (h3 : tmps.getD 7 undef = .bool b)
    (hr : v = .tuple #[.agg #[.string key, .bool gone, .int .i64 k, .int .i64 n, .string s], .bool b]) (hb : Below w0.heap.size w0 w) : bodyPost Tryz.prog Tryz.f38 (fun e w' => e = .returned v ∧ Below w0.heap.size w0 w') Exit.ret { tmps := tmps, defers := [] } w := by
  subst hr
  have h := results_row_one (P := Tryz.prog) (fn := Tryz.f38) (p := 6) (u := 7) (ty := 33) rfl tmps w g 33 #[.string key, .bool gone, .int .i64 k, .int .i64 n, .string s] fr _ hp hg Tryz.underlying33 rfl (by kernel_rfl)
  rw [h3] at h
  exact bodyPost_ret h rfl ⟨rfl, hb⟩

set_option maxRecDepth 100000 in
theorem lnil_get (key : ByteArray) (w : World) : Calls Tryz.prog 14 #[.pointer none, .string key] w fun e w' => e = .returned (outR none) ∧ Below w.heap.size w w' := by
  go_enter Tryz.func14, Tryz.ntmps14
  go_wp2_with fail
  exact ret_lget_at rfl (heap_alloc_new w _) rfl rfl (below_one w _)
set_option maxRecDepth 100000 in
theorem lnil_slot (b s : Int) (w : World) : Calls Tryz.prog 38 #[.pointer none, .int .i64 b, .int .i64 s] w fun e w' => e = .returned (outR none) ∧ Below w.heap.size w w' := by
  go_enter Tryz.func38, Tryz.ntmps38
  go_wp2_with fail
  exact ret_lslot_at rfl (heap_alloc_new w _) rfl rfl (below_one w _)
set_option maxRecDepth 100000 in
theorem lnil_reads (key : ByteArray) (w : World) : Calls Tryz.prog 17 #[.pointer none, .string key] w fun e w' => e = .returned (.int .i64 0) ∧ Below w.heap.size w w' := by
  go_enter Tryz.func17, Tryz.ntmps17
  go_wp2_with fail
  go_ret
  exact ⟨rfl, Below.refl _ _⟩
set_option maxRecDepth 100000 in
theorem lnil_list (w : World) : Calls Tryz.prog 20 #[.pointer none] w fun e w' => e = .returned (.slice none 0 0) ∧ Below w.heap.size w w' := by
  go_enter Tryz.func20, Tryz.ntmps20
  go_wp2_with fail
  go_ret
  exact ⟨rfl, Below.refl _ _⟩

set_option maxRecDepth 100000 in
theorem llist_c {w : World} {B p d : Nat} {v : Value} {L : List RecT} (h : LG w B p d v L) : Calls Tryz.prog 20 #[.pointer (some ⟨p, 0, none⟩)] w fun e w' => ∃ v', e = .returned v' ∧ OwnRec w' w.heap.size v' (newestR L) ∧ Below w.heap.size w w' := by
  have hl := h.len
  have C := Go.Lib.hid (pnewest_c v L w h.own.rs (by omega) fun x hx => by have := mayT_short (h.may x hx); omega)
  obtain ⟨x0, x1⟩ := h.cells
  obtain ⟨a, cap, rfl, -⟩ := h.own.rs.form
  clear h hl
  go_enter Tryz.func20, Tryz.ntmps20
  go_wp2_with fail
  refine C.out.mono ?_
  rintro e w1 ⟨v', rfl, hown, hb⟩
  have HO := Go.Lib.hid hown
  have HB := Go.Lib.hid hb
  clear hown hb C
  go_wp2_with fail
  go_ret
  exact ⟨_, rfl, HO.out, HB.out⟩

set_option maxHeartbeats 1000000 in
set_option maxRecDepth 100000 in
theorem lget_c {w : World} {B p d : Nat} {v : Value} {L : List RecT} (h : LG w B p d v L) (key : ByteArray) (hk : key.size ≤ 1000000) :
    Calls Tryz.prog 14 #[.pointer (some ⟨p, 0, none⟩), .string key] w fun e w' => e = .returned (outR (findK keyR L key.toList)) ∧ Below w.heap.size w w' := by
  have hb1 := below_one w (.cells #[.string ⟨#[]⟩, .bool false, .int .i64 0, .int .i64 0, .string ⟨#[]⟩] 33)
  have hA := heap_alloc_new w (.cells #[.string ⟨#[]⟩, .bool false, .int .i64 0, .int .i64 0, .string ⟨#[]⟩] 33)
  have CF := Go.Lib.hid (lfind_c (h.below hb1) key hk)
  have H := Go.Lib.hid h
  clear h hk
  go_enter Tryz.func14, Tryz.ntmps14
  go_wp2_with fail
  refine CF.out.mono ?_
  rintro e w1 ⟨hor, hc⟩
  have hA := row_kept hA hc
  have hbb := hb1.trans (hc.mono hb1.size)
  have HA := Go.Lib.hid hA
  have HB := Go.Lib.hid hbb
  have H1 := Go.Lib.hid (H.out.below hbb)
  clear hA hbb hc hb1 CF
  rcases hor with ⟨i, hi, hik, rfl⟩ | ⟨hno, rfl⟩
  · have HE := Go.Lib.hid (show findK keyR L key.toList = some L[i] from (find_iff H.out.keys _ _).2 ⟨List.getElem_mem hi, keyR_eq.2 hik⟩)
    obtain ⟨x0, x1⟩ := H1.out.cells
    obtain ⟨g, cap, rfl, hglt⟩ := own_form H1.out.own (by intro e; rw [e] at hi; simp at hi)
    obtain ⟨b, o, hbo, -, -, c0, c1, c2, c3, c4⟩ := H1.out.own.rs.at i hi
    cases hbo
    have hix := run_idx5 g 0 L.length cap i hi
    simp only [Nat.zero_add] at hix c0 c1 c2 c3 c4
    have hsz := H1.out.sizes hi
    generalize L[i] = x at *
    obtain ⟨kx, gx, ax, nx, sx⟩ := x
    simp only [] at c0 c1 c2 c3 c4 hsz
    have CR := Go.Lib.hid fun W => lfresh_c kx gx ax nx sx W (by omega) (by omega)
    unfold recV at CR
    clear hsz hik
    go_wp2_with fail
    refine (CR.out _).mono ?_
    rintro e w2 ⟨rfl, hc⟩
    have HA2 := Go.Lib.hid (row_kept HA.out hc)
    have HB2 := Go.Lib.hid (HB.out.trans (hc.mono HB.out.size))
    clear hc c0 c1 c2 c3 c4 hix x0 x1 CR HA
    go_wp2_with (first
      | (with_reducible show wpList _ _ _ (⟨none, Op.store 33 (.tmp 4) (.tmp 23), _, _, _, _⟩ :: _) _ _; go_loud (refine wpList_store_row rfl 33 (.tmp 4) (.tmp 23) rfl w.heap.size #[.string kx, .bool gx, .int .i64 ax, .int .i64 nx, .string sx] rfl rfl 33 _ HA2.out (by kernel_rfl) rfl (rec_cells_one ..) ?_))
      | fail)
    refine ret_lget_at rfl (setRow_heap _ _ _ _ _ (0, 0) HA2.out) rfl ?_ (setRow_below _ HB2.out (Nat.le_refl _))
    rw [HE.out]
    rfl
  · have HE := Go.Lib.hid (show findK keyR L key.toList = none from (find_none _).2 fun x hx e => hno x hx (keyR_eq.1 e))
    clear hno
    go_wp2_with (first
      | (with_reducible show wpList _ _ _ (⟨none, Op.store 33 (.tmp 4) (.tmp 15), _, _, _, _⟩ :: _) _ _; go_loud (refine wpList_store_row rfl 33 (.tmp 4) (.tmp 15) rfl w.heap.size #[.string ⟨#[]⟩, .bool false, .int .i64 0, .int .i64 0, .string ⟨#[]⟩] rfl rfl 33 _ HA.out (by kernel_rfl) rfl (rec_cells_one ..) ?_))
      | fail)
    refine ret_lget_at rfl (setRow_heap _ _ _ _ _ (0, 0) HA.out) rfl ?_ (setRow_below _ HB.out (Nat.le_refl _))
    rw [HE.out]
    rfl

/-- The record of a slot. -/
def slotO (T : SlT) (L : List RecT) (q : Nat) : Option RecT := (T q).map fun y => L.getD y.2.toNat nullR
theorem slot_some {T : SlT} {L : List RecT} (hf : Fits T (esL L)) {q t : Nat} {z : Int} (hq : q < 32) (hT : T q = some (t, z)) : ∃ i, ∃ h : i < L.length, z = (i : Int) ∧ slotO T L q = some L[i] ∧ keyN (q / 4) t = keyH (hR L[i]) := by
  obtain ⟨k, hk, he⟩ := hf.entry hq hT
  have hk2 : k < L.length := by rw [esL_len] at hk; exact hk
  rw [esL_at hk2] at he
  unfold keyE at he
  simp only [Prod.mk.injEq] at he
  refine ⟨k, hk2, he.2.symm, ?_, he.1.symm⟩
  unfold slotO
  rw [hT]
  simp only [Option.map_some, Option.some.injEq, ← he.2, Int.toNat_natCast]
  rw [List.getD_eq_getElem?_getD, List.getElem?_eq_getElem hk2]
  rfl

set_option maxHeartbeats 1000000 in
set_option maxRecDepth 100000 in
theorem lslot_c {w : World} {B p d : Nat} {v : Value} {L : List RecT} (h : LG w B p d v L) {T : SlT} (hc : CK w d T) (hf : Fits T (esL L)) {b s : Nat} (hb : b < 8) (hs : s < 4) :
    Calls Tryz.prog 38 #[.pointer (some ⟨p, 0, none⟩), .int .i64 (b : Int), .int .i64 (s : Int)] w fun e w' => e = .returned (outR (slotO T L (4 * b + s))) ∧ Below w.heap.size w w' := by
  have hb1 := below_one w (.cells #[.string ⟨#[]⟩, .bool false, .int .i64 0, .int .i64 0, .string ⟨#[]⟩] 33)
  have hA := heap_alloc_new w (.cells #[.string ⟨#[]⟩, .bool false, .int .i64 0, .int .i64 0, .string ⟨#[]⟩] 33)
  have H0 := h.below hb1
  obtain ⟨x0, x1⟩ := H0.cells
  obtain ⟨av, cap, rfl, hlm⟩ := h.own.rs.form
  have H := Go.Lib.hid h
  cases hT : T (4 * b + s) with
  | none =>
    have C := Go.Lib.hid (cat_none (hc.below hb1) hb hs hT)
    have HE := Go.Lib.hid (show slotO T L (4 * b + s) = none from by unfold slotO; rw [hT]; rfl)
    clear hT hf hc H0 h
    go_enter Tryz.func38, Tryz.ntmps38
    go_wp2_with fail
    refine C.out.mono ?_
    rintro e w1 ⟨rfl, hc⟩
    have HA := Go.Lib.hid (row_kept hA hc)
    have HB := Go.Lib.hid (hb1.trans (hc.mono hb1.size))
    clear hA hc hb1 C x0 x1
    go_wp2_with (first
      | (with_reducible show wpList _ _ _ (⟨none, Op.store 33 (.tmp 6) (.tmp 27), _, _, _, _⟩ :: _) _ _; go_loud (refine wpList_store_row rfl 33 (.tmp 6) (.tmp 27) rfl w.heap.size #[.string ⟨#[]⟩, .bool false, .int .i64 0, .int .i64 0, .string ⟨#[]⟩] rfl rfl 33 _ HA.out (by kernel_rfl) rfl (rec_cells_one ..) ?_))
      | fail)
    refine ret_lslot_at rfl (setRow_heap _ _ _ _ _ (0, 0) HA.out) rfl ?_ (setRow_below _ HB.out (Nat.le_refl _))
    rw [HE.out]
    rfl
  | some y =>
    obtain ⟨t, z⟩ := y
    have C := Go.Lib.hid (cat_some (hc.below hb1) hb hs hT)
    obtain ⟨i, hi, rfl, hsl, -⟩ := slot_some hf (by omega) hT
    have HE := Go.Lib.hid hsl
    clear hT hf hc H0 h hsl
    go_enter Tryz.func38, Tryz.ntmps38
    go_wp2_with fail
    refine C.out.mono ?_
    rintro e w1 ⟨rfl, hc⟩
    have HA := Go.Lib.hid (row_kept hA hc)
    have HB := Go.Lib.hid (hb1.trans (hc.mono hb1.size))
    have H1 := Go.Lib.hid (H.out.below HB.out)
    clear hA hc hb1 C x0 x1
    obtain ⟨x0, x1⟩ := H1.out.cells
    obtain ⟨b2, o2, rfl, -, -, c0, c1, c2, c3, c4⟩ := H1.out.own.rs.at i hi
    have hix := run_idx5 b2 o2 L.length cap i hi
    have hsz := H1.out.sizes hi
    generalize L[i] = x at *
    obtain ⟨kx, gx, ax, nx, sx⟩ := x
    simp only [] at c0 c1 c2 c3 c4 hsz
    have CR := Go.Lib.hid fun W => lfresh_c kx gx ax nx sx W (by omega) (by omega)
    unfold recV at CR
    clear hsz
    go_wp2_with fail
    refine (CR.out _).mono ?_
    rintro e w2 ⟨rfl, hc⟩
    have HA2 := Go.Lib.hid (row_kept HA.out hc)
    have HB2 := Go.Lib.hid (HB.out.trans (hc.mono HB.out.size))
    clear hc c0 c1 c2 c3 c4 hix x0 x1 CR HA
    go_wp2_with (first
      | (with_reducible show wpList _ _ _ (⟨none, Op.store 33 (.tmp 6) (.tmp 35), _, _, _, _⟩ :: _) _ _; go_loud (refine wpList_store_row rfl 33 (.tmp 6) (.tmp 35) rfl w.heap.size #[.string kx, .bool gx, .int .i64 ax, .int .i64 nx, .string sx] rfl rfl 33 _ HA2.out (by kernel_rfl) rfl (rec_cells_one ..) ?_))
      | fail)
    refine ret_lslot_at rfl (setRow_heap _ _ _ _ _ (0, 0) HA2.out) rfl ?_ (setRow_below _ HB2.out (Nat.le_refl _))
    rw [HE.out]
    rfl

set_option maxHeartbeats 1000000 in
set_option maxRecDepth 100000 in
theorem lslot_out {w : World} {B p d : Nat} {v : Value} {L : List RecT} (h : LG w B p d v L) {b s : Int} (hb : b < 0 ∨ 8 ≤ b ∨ s < 0 ∨ 4 ≤ s) :
    Calls Tryz.prog 38 #[.pointer (some ⟨p, 0, none⟩), .int .i64 b, .int .i64 s] w fun e w' => e = .returned (outR none) ∧ Below w.heap.size w w' := by
  have hb1 := below_one w (.cells #[.string ⟨#[]⟩, .bool false, .int .i64 0, .int .i64 0, .string ⟨#[]⟩] 33)
  have hA := heap_alloc_new w (.cells #[.string ⟨#[]⟩, .bool false, .int .i64 0, .int .i64 0, .string ⟨#[]⟩] 33)
  have H0 := h.below hb1
  obtain ⟨x0, x1⟩ := H0.cells
  have C := Go.Lib.hid (cat_bad (some ⟨d, 0, none⟩) b s (w.alloc (.cells #[.string ⟨#[]⟩, .bool false, .int .i64 0, .int .i64 0, .string ⟨#[]⟩] 33)) (.inr hb))
  clear H0 h hb
  go_enter Tryz.func38, Tryz.ntmps38
  go_wp2_with fail
  refine C.out.mono ?_
  rintro e w1 ⟨rfl, hc⟩
  have HA := Go.Lib.hid (row_kept hA hc)
  have HB := Go.Lib.hid (hb1.trans (hc.mono hb1.size))
  clear hA hc hb1 C x0 x1
  go_wp2_with (first
    | (with_reducible show wpList _ _ _ (⟨none, Op.store 33 (.tmp 6) (.tmp 27), _, _, _, _⟩ :: _) _ _; go_loud (refine wpList_store_row rfl 33 (.tmp 6) (.tmp 27) rfl w.heap.size #[.string ⟨#[]⟩, .bool false, .int .i64 0, .int .i64 0, .string ⟨#[]⟩] rfl rfl 33 _ HA.out (by kernel_rfl) rfl (rec_cells_one ..) ?_))
    | fail)
  refine ret_lslot_at rfl (setRow_heap _ _ _ _ _ (0, 0) HA.out) rfl ?_ (setRow_below _ HB.out (Nat.le_refl _))
  rfl

def VLr (p d hk : Nat) (key : ByteArray) (F : List Int) : Nat → World → Value → Prop
  | 7, _, v => v = .pointer (some ⟨p, 0, none⟩)
  | 8, _, v => v = .pointer (some ⟨p, 0, none⟩)
  | 9, _, v => v = .pointer (some ⟨p, 0, none⟩)
  | 10, _, v => v = .pointer (some ⟨d, 0, none⟩)
  | 11, _, v => v = .string key
  | 12, _, v => v = .int .u64 (hk : Int)
  | 13, w, v => KI.R w v F
  | 14, _, v => v = .int .i64 (F.length : Int)
  | 4, _, v => v = .int .i64 (F.length : Int)
  | _, _, _ => True

theorem VLr_below (p d hk : Nat) (key : ByteArray) (F : List Int) : ∀ (i : Nat) (w w' : World) (v : Value), VLr p d hk key F i w v → Below w.heap.size w w' → VLr p d hk key F i w' v := by
  intro i w w' v h hb
  unfold VLr at h ⊢
  split at h <;> first | exact h | trivial | exact Lay.R.below h hb

set_option maxHeartbeats 1000000 in
set_option maxRecDepth 100000 in
theorem lreads_c {w : World} {B p d : Nat} {v : Value} {L : List RecT} (h : LG w B p d v L) (key : ByteArray) (hk : key.size ≤ 1000000) :
    Calls Tryz.prog 17 #[.pointer (some ⟨p, 0, none⟩), .string key] w fun e w' => e = .returned (.int .i64 (readsR L key : Int)) ∧ Below w.heap.size w w' := by
  have CH := Go.Lib.hid fun W => hof_k key (hashS key) rfl W hk
  have CF := Go.Lib.hid fun W (hb : Below w.heap.size w W) => lids_c (h.below hb) key
  have X0 := Go.Lib.hid h.cells.1
  have HN := Go.Lib.hid (ids_len L key)
  clear h hk
  generalize idsR L key = F at *
  generalize hashS key = hk at *
  go_enter Tryz.func17, Tryz.ntmps17
  go_upto_region 3 with (fail)
  refine wp_region_each (by kernel_rfl) (VLr p d hk key F) (VLr_below p d hk key F) (by decide +kernel) (by decide +kernel) (by rfl) [7, 8, 9, 10, 11, 12, 13, 14, 4] (by rfl) ?_ ?_
  · intro i o ho a w6 hb6 hlen hg
    have x0 := keepC X0.out hb6
    match i, ho with
    | 0, ho =>
      obtain rfl := Option.some.inj ho
      have h0 := given_old hg 0 (by decide +kernel)
      clear hg
      exact st_yield ho (wanted_none rfl) (.pointer (some ⟨p, 0, none⟩)) w6 (by simp [execOp, Act.eval, h0, go_sem]) ⟨_, rfl, Below.refl _ _, by rintro t' ⟨⟩; rfl⟩
    | 1, ho =>
      obtain rfl := Option.some.inj ho
      obtain ⟨_, h7, rfl⟩ := given_fed hg 7 (by decide +kernel)
      clear hg
      exact st_yield ho (wanted_none rfl) (.pointer (some ⟨p, 0, none⟩)) w6 (by simp [execOp, Act.eval, h7, go_sem]) ⟨_, rfl, Below.refl _ _, by rintro t' ⟨⟩; rfl⟩
    | 2, ho =>
      obtain rfl := Option.some.inj ho
      obtain ⟨_, h8, rfl⟩ := given_fed hg 8 (by decide +kernel)
      clear hg
      exact st_yield ho (wanted_none rfl) (.pointer (some ⟨p, 0, none⟩)) w6 (by simp [execOp, Act.eval, h8, go_sem]) ⟨_, rfl, Below.refl _ _, by rintro t' ⟨⟩; rfl⟩
    | 3, ho =>
      obtain rfl := Option.some.inj ho
      obtain ⟨_, h9, rfl⟩ := given_fed hg 9 (by decide +kernel)
      clear hg
      exact st_yield ho (wanted_none rfl) (.pointer (some ⟨d, 0, none⟩)) w6 (by simp [execOp, Act.eval, h9, go_sem, x0]) ⟨_, rfl, Below.refl _ _, by rintro t' ⟨⟩; rfl⟩
    | 4, ho =>
      obtain rfl := Option.some.inj ho
      have h1 := given_old hg 1 (by decide +kernel)
      clear hg
      exact st_yield ho (wanted_none rfl) (.string key) w6 (by simp [execOp, Act.eval, h1, go_sem]) ⟨_, rfl, Below.refl _ _, by rintro t' ⟨⟩; rfl⟩
    | 5, ho =>
      obtain rfl := Option.some.inj ho
      obtain ⟨_, h11, rfl⟩ := given_fed hg 11 (by decide +kernel)
      clear hg
      exact st_enter (w1 := w6) ho (wanted_none rfl) 33 #[.string key] (by simp [execOp, Act.eval, h11, resolve, go_sem]) ((CH.out _).mono (by rintro e w7 ⟨rfl, hb7⟩; exact ⟨_, rfl, _, rfl, hb7, by rintro t' ⟨⟩; rfl⟩))
    | 6, ho =>
      obtain rfl := Option.some.inj ho
      obtain ⟨_, h10, rfl⟩ := given_fed hg 10 (by decide +kernel)
      obtain ⟨_, h12, rfl⟩ := given_fed hg 12 (by decide +kernel)
      clear hg
      exact st_enter (w1 := w6) ho (wanted_none rfl) 35 #[.pointer (some ⟨d, 0, none⟩), .int .u64 (hk : Int)] (by simp [execOp, Act.eval, h10, h12, resolve, go_sem]) ((CF.out w6 hb6).mono (by rintro e w7 ⟨v', rfl, hown, hb7⟩; exact ⟨v', rfl, _, rfl, hb7, by rintro t' ⟨⟩; exact hown⟩))
    | 7, ho =>
      obtain rfl := Option.some.inj ho
      obtain ⟨v13, h13, p13⟩ := given_fed hg 13 (by decide +kernel)
      clear hg
      obtain ⟨a, cap, rfl, -⟩ := p13.form
      exact st_yield ho (wanted_none rfl) (.int .i64 (F.length : Int)) w6 (by simp [execOp, Act.eval, h13, resolve, go_sem]) ⟨_, rfl, Below.refl _ _, by rintro t' ⟨⟩; rfl⟩
    | 8, ho =>
      obtain rfl := Option.some.inj ho
      obtain ⟨_, h14, rfl⟩ := given_fed hg 14 (by decide +kernel)
      clear hg
      exact st_yield ho (wanted_none rfl) (.int .i64 (F.length : Int)) w6 (by simp [execOp, Act.eval, h14, go_sem]) ⟨_, rfl, Below.refl _ _, by rintro t' ⟨⟩; rfl⟩
    | n + 9, ho => simp at ho
  · intro f w6 hb6 hv
    have h4 := hv 4 (by decide)
    simp only [VLr] at h4
    have HB := Go.Lib.hid hb6
    clear hv CF CH hb6
    unfold putAll
    simp only [List.foldl]
    simp only [h4]
    go_simp
    clear h4
    go_wp2_with fail
    go_ret
    rw [← HN.out]
    exact ⟨rfl, HB.out⟩

end Go.Proofs.YtkpbbjappndddaaGreat

namespace Go.Proofs.YtkpbbjappndddaaGreat
open Go.RowKit

theorem room_two : ∀ S : Fin 256, ∀ b c : Fin 8, b ≠ c → bitN S.val b.val = 1 → bitN S.val c.val = 1 → 8 ≤ roomN S.val := by decide +kernel
/-- Eight find a place, whichever. -/
theorem room_small {hs : List Nat} (h : hs.length ≤ 8) : roomB hs = true := by
  refine room_all fun S hS => ?_
  by_cases hz : cntN S hs = 0
  · omega
  · obtain ⟨x, -, hx⟩ := List.countP_pos_iff.1 (show 0 < List.countP (inS S) hs from by unfold cntN at hz; omega)
    unfold inS at hx
    simp only [Bool.and_eq_true, beq_iff_eq] at hx
    have h8 := room_two ⟨S, hS⟩ ⟨firstN x, first_lt x⟩ ⟨othN (firstN x) (tagN x), oth_lt (tagN x) (first_lt x)⟩ (fun e => oth_ne (tagN x) (first_lt x) (by simpa using congrArg Fin.val e.symm)) hx.1 hx.2
    have := cnt_le S hs
    simp only [] at h8
    omega
theorem roomR_small {L : List RecT} (h : L.length ≤ 7) (k : ByteArray) : roomR L k = true := by
  unfold roomR
  rw [room_small (by simp; omega), Bool.or_true]
theorem putL_len (L : List RecT) (x : RecT) : (putL L x).length ≤ L.length + 1 := by
  unfold putL
  split <;> simp
/-- A log that stays where it is, behind a put. -/
structure Kept (B p d : Nat) (v : Value) (M : List RecT) (w w' : World) : Prop where
  lg : ∃ v', LG w' B p d v' M ∧ (v'.ownBlock = v.ownBlock ∨ ∀ k, v'.ownBlock = some k → w.heap.size ≤ k)
  off : Off3 p d v.ownBlock w w'
theorem lput_small {w : World} {B p d : Nat} {v : Value} {L : List RecT} (h : LG w B p d v L) (key : ByteArray) (gone : Bool) (k n : Int) (s : ByteArray) (hm : mayT (key, gone, k, n, s) = true) (hr : roomR L key = true) :
    Calls Tryz.prog 12 #[.pointer (some ⟨p, 0, none⟩), .agg #[.string key, .bool gone, .int .i64 k, .int .i64 n, .string s]] w fun e w' => e = .returned (.int .i64 0) ∧ (∃ v', LG w' B p d v' (putL L (key, gone, k, n, s)) ∧ (v'.ownBlock = v.ownBlock ∨ ∀ k, v'.ownBlock = some k → w.heap.size ≤ k)) ∧ Off3 p d v.ownBlock w w' := by
  have hz := mayT_short hm
  simp only [] at hz
  have C := lput_w h key gone k n s (by unfold maxLen; omega) (by unfold maxLen; omega)
  have h1 : putE L (key, gone, k, n, s) = 0 := by unfold putE; simp [hm, hr]
  have h2 : putN L (key, gone, k, n, s) = putL L (key, gone, k, n, s) := by unfold putN; simp [hm, hr]
  rw [h1, h2] at C
  exact C

def xb1 : RecT := (⟨#[98]⟩, false, 1, 1, ⟨#[]⟩)
def xa : RecT := (⟨#[97]⟩, true, 0, 0, ⟨#[]⟩)
def xb2 : RecT := (⟨#[98]⟩, false, 1, 2, ⟨#[]⟩)
theorem may_b1 : mayT xb1 = true := by unfold mayT mayRec mayK mayR xb1; simp; decide
theorem may_a : mayT xa = true := by unfold mayT mayRec mayK xa; simp; decide
theorem may_b2 : mayT xb2 = true := by unfold mayT mayRec mayK mayR xb2; simp; decide
theorem may_null : mayT nullR = false := by unfold mayT mayRec mayK mayR nullR; simp
theorem key_ab : keyR xa ≠ keyR xb1 := by unfold keyR; rw [ByteArray.toList_eq, ByteArray.toList_eq]; decide
theorem key_bb : keyR xb2 = keyR xb1 := rfl
theorem put1 : putL [] xb1 = [xb1] := rfl
theorem put2 : putL [xb1] xa = [xb1, xa] := putL_new fun y hy => by rw [List.mem_singleton.1 hy]; exact key_ab.symm
theorem keys2 : KeysOk [xb1, xa] := by unfold KeysOk; simp [key_ab.symm]
theorem put3 : putL [xb1, xa] xb2 = [xb2, xa] := putL_in keys2 (i := 0) (by simp) key_bb.symm
theorem new3 : newestR [xb2, xa] = [xa, xb2] := by
  refine (newestK_of ordR [xb2, xa] [xa, xb2] ?_ fun k => rfl).symm
  unfold Rising keyR
  rw [List.pairwise_cons]
  refine ⟨fun y hy => ?_, by simp⟩
  rw [List.mem_singleton.1 hy]
  rw [ByteArray.toList_eq, ByteArray.toList_eq]
  decide
theorem run3 : runP [] [xa, xb2] = (0, [xa, xb2]) := by
  have e1 : putE [] xa = 0 := by unfold putE; simp [may_a, roomR_small]
  have e2 : putN [] xa = [xa] := by unfold putN; simp [may_a, roomR_small, putL]
  have e3 : putE [xa] xb2 = 0 := by unfold putE; simp [may_b2, roomR_small]
  have e4 : putN [xa] xb2 = [xa, xb2] := by unfold putN; simp [may_b2, roomR_small]; exact putL_new fun y hy => by rw [List.mem_singleton.1 hy]; exact key_ab
  simp [runP, e1, e2, e3, e4]
theorem find3b : findK keyR [xb2, xa] (⟨#[98]⟩ : ByteArray).toList = some xb2 := by unfold findK; rw [List.find?_cons]; simp [keyR, xb2]
theorem find3c : findK keyR [xb2, xa] (⟨#[99]⟩ : ByteArray).toList = none := by
  rw [find_none]
  intro x hx
  simp only [List.mem_cons, List.not_mem_nil, or_false] at hx
  rw [Ne, keyR_eq]
  rcases hx with rfl | rfl <;> decide
theorem reads3 : 1 ≤ readsR [xb2, xa] ⟨#[98]⟩ := by
  unfold readsR
  rw [List.countP_cons]
  have : nearN (hashS ⟨#[98]⟩) (hR xb2) = true := near_self _
  rw [this]
  simp
theorem outR_b2 : outR (some xb2) = .tuple #[.agg #[.string ⟨#[98]⟩, .bool false, .int .i64 1, .int .i64 2, .string ⟨#[]⟩], .bool true] := rfl

set_option maxHeartbeats 4000000 in
set_option maxRecDepth 100000 in
theorem begun_c (w : World) : Calls Tryz.prog 6 #[] w fun e w' => e = .returned (.bool true) ∧ Below w.heap.size w w' := by
  have CN := Go.Lib.hid (lnew_c w)
  go_enter Tryz.func6, Tryz.ntmps6
  go_wp2_with fail
  refine CN.out.mono ?_
  rintro e w1 ⟨p, d, rfl, hl, hb⟩
  have HB := Go.Lib.hid hb
  have HL := Go.Lib.hid hl
  clear hb hl CN
  go_wp2_with fail
  refine (lput_small HL.out ⟨#[98]⟩ false 1 1 ⟨#[]⟩ may_b1 (roomR_small (by simp) _)).mono ?_
  rintro e w2 ⟨rfl, ⟨v2, hl, -⟩, ho⟩
  have HB2 := Go.Lib.hid (HB.out.trans (HL.out.offBelow ho))
  have HL2 : Hid (LG w2 w.heap.size p d v2 [xb1]) := hl
  clear hl ho HL HB
  go_wp2_with fail
  refine (lput_small HL2.out ⟨#[97]⟩ true 0 0 ⟨#[]⟩ may_a (roomR_small (by simp) _)).mono ?_
  rintro e w3 ⟨rfl, ⟨v3, hl, -⟩, ho⟩
  have HB3 := Go.Lib.hid (HB2.out.trans (HL2.out.offBelow ho))
  have HL3 : Hid (LG w3 w.heap.size p d v3 [xb1, xa]) := by rw [← put2]; exact hl
  clear hl ho HL2 HB2
  go_wp2_with fail
  refine (lput_small HL3.out ⟨#[98]⟩ false 1 2 ⟨#[]⟩ may_b2 (roomR_small (by simp) _)).mono ?_
  rintro e w4 ⟨rfl, ⟨v4, hl, -⟩, ho⟩
  have HB4 := Go.Lib.hid (HB3.out.trans (HL3.out.offBelow ho))
  have HL4 : Hid (LG w4 w.heap.size p d v4 [xb2, xa]) := by rw [← put3]; exact hl
  clear hl ho HL3 HB3
  have CG := lget_c HL4.out ⟨#[98]⟩ (by decide)
  rw [find3b, outR_b2] at CG
  have CG := Go.Lib.hid CG
  go_wp2_with fail
  refine CG.out.mono ?_
  rintro e w5 ⟨rfl, hc⟩
  have hc2 := hc.trans ((below_one w5 (.cells #[.string ⟨#[98]⟩, .bool false, .int .i64 1, .int .i64 2, .string ⟨#[]⟩] 33)).mono hc.size)
  have HB5 := Go.Lib.hid (HB4.out.trans (hc2.mono HB4.out.size))
  have HL5 := Go.Lib.hid (HL4.out.below hc2)
  have HX := Go.Lib.hid (heap_alloc_new w5 (.cells #[.string ⟨#[98]⟩, .bool false, .int .i64 1, .int .i64 2, .string ⟨#[]⟩] 33))
  clear hc hc2 CG HB4 HL4
  obtain ⟨g5, hg5⟩ : ∃ g, g = w5.heap.size := ⟨_, rfl⟩
  go_wp2_with fail
  rw [← hg5] at HX ⊢
  generalize w5.alloc (.cells #[.string ⟨#[98]⟩, .bool false, .int .i64 1, .int .i64 2, .string ⟨#[]⟩] 33) = w6 at *
  clear hg5
  have CG := lget_c HL5.out ⟨#[99]⟩ (by decide)
  rw [find3c, outR_none] at CG
  refine CG.mono ?_
  rintro e w7 ⟨rfl, hc⟩
  have hc2 := hc.trans ((below_one w7 (.cells #[.string ⟨#[]⟩, .bool false, .int .i64 0, .int .i64 0, .string ⟨#[]⟩] 33)).mono hc.size)
  have HB7 := Go.Lib.hid (HB5.out.trans (hc2.mono HB5.out.size))
  have HL7 := Go.Lib.hid (HL5.out.below hc2)
  have HX7 := Go.Lib.hid (row_kept HX.out hc2)
  clear hc hc2 CG HB5 HL5 HX
  go_wp2_with fail
  generalize w7.alloc (.cells #[.string ⟨#[]⟩, .bool false, .int .i64 0, .int .i64 0, .string ⟨#[]⟩] 33) = w8 at *
  refine (llist_c HL7.out).mono ?_
  rintro e w9 ⟨v9, rfl, ho9, hc⟩
  rw [new3] at ho9
  have HB9 := Go.Lib.hid (HB7.out.trans (hc.mono HB7.out.size))
  have HL9 := Go.Lib.hid (HL7.out.below hc)
  have HX9 := Go.Lib.hid (row_kept HX7.out hc)
  have HO9 := Go.Lib.hid ho9
  clear hc HB7 HL7 HX7
  have CO := Go.Lib.hid (lof_c v9 [xa, xb2] w9 ho9.rs (by intro x hx; simp only [List.mem_cons, List.not_mem_nil, or_false] at hx; rcases hx with rfl | rfl <;> decide))
  rw [run3] at CO
  obtain ⟨g9, c9, rfl, hg9⟩ := own_form ho9 (by simp)
  clear ho9 hg9
  go_wp2_with fail
  refine CO.out.mono ?_
  rintro e w10 ⟨⟨-, p2, d2, v2', rfl, hl2⟩ | ⟨h0, -⟩, hc⟩
  · have HB10 := Go.Lib.hid (HB9.out.trans (hc.mono HB9.out.size))
    have HL10 := Go.Lib.hid (HL9.out.below hc)
    have HX10 := Go.Lib.hid (row_kept HX9.out hc)
    have HM10 := Go.Lib.hid hl2
    have HO10 := Go.Lib.hid (HO9.out.below hc)
    clear hc hl2 CO HB9 HL9 HX9 HO9
    obtain ⟨y0, y1, y2, y3, y4⟩ := row5 HX10.out
    obtain ⟨b, o, hbo, -, -, c0, c1, c2, c3, c4⟩ := HO10.out.rs.at 0 (by simp)
    cases hbo
    have hix : ∀ W : World, (Instr.indexAt 22 (.slice (some ⟨g9, 0, none⟩) 2 c9) (.int .i64 0)).run Tryz.prog W = .ok (.pointer (some ⟨g9, 0, none⟩)) W := fun W => by simpa using run_idx5 g9 0 2 c9 0 (by omega) W
    simp only [Nat.zero_mul, Nat.add_zero, List.getElem_cons_zero, xa] at c0 c1 c2 c3 c4
    have hq97 : ((⟨#[97]⟩ : ByteArray).toList == (⟨#[97]⟩ : ByteArray).toList) = true := beq_iff_eq.2 rfl
    clear c1 c2 c3 c4 y0 y1 y2 y4
    go_wp2_with fail
    refine (llen_c HL10.out).mono ?_
    rintro e w11 ⟨rfl, rfl⟩
    go_wp2_with fail
    have hr3 := reads3
    refine (lreads_c HL10.out ⟨#[98]⟩ (by decide)).mono ?_
    rintro e w11 ⟨rfl, hc⟩
    have HB11 := Go.Lib.hid (HB10.out.trans (hc.mono HB10.out.size))
    have HL11 := Go.Lib.hid (HL10.out.below hc)
    have HM11 := Go.Lib.hid (HM10.out.below hc)
    clear hc HB10 HL10 HM10 y3 c0
    generalize readsR [xb2, xa] ⟨#[98]⟩ = n3 at *
    have hge : decide ((1 : Int) ≤ (n3 : Int)) = true := decide_eq_true (by omega)
    have hge2 : ((1 : Int) ≤ (n3 : Int)) := by omega
    go_wp2_with fail
    refine (llen_c HM11.out).mono ?_
    rintro e w12 ⟨rfl, rfl⟩
    have CP := lput_w HL11.out ⟨#[]⟩ false 0 0 ⟨#[]⟩ (by decide) (by decide)
    have hE : putE [xb2, xa] (⟨#[]⟩, false, 0, 0, ⟨#[]⟩) = 1 := by unfold putE; rw [show mayT (⟨#[]⟩, false, 0, 0, ⟨#[]⟩) = false from may_null]; rfl
    rw [hE] at CP
    unfold recV at CP
    have CP := Go.Lib.hid CP
    go_wp2_with fail
    refine CP.out.mono ?_
    rintro e w13 ⟨rfl, -, ho⟩
    have HB13 := Go.Lib.hid (HB11.out.trans (HL11.out.offBelow ho))
    clear ho CP
    go_wp2_with fail
    go_ret
    exact ⟨rfl, HB13.out⟩
  · exact absurd rfl h0

end Go.Proofs.YtkpbbjappndddaaGreat
