/-
  'append' to what the call itself owns, with one thing more than the library's law says: the row is the one it was, or a new one.
  Stage 17: the buckets that are reached, in memory; slices.Clone of places.
  Stage 17: way.
  A region whose order is open, whose operations read and make memory, and some of which CHANGE what stands (a call of a method that writes): beside the condition for each slot (XDraw) an invariant of the world that knows which operations have been carried out. Each operation is shown once.
  As XDrawI's wp_region_inv2, with an invariant that sees the slots too.
  Stage 17: Insert.
  Package cuckoo, as the laws meet it.
  Boxes of records: their cells, in whatever world came later.
-/
import Derived.Test.YtggokffdgjedgaaGreatM01
import Derived.Test.YtggokffdgjedgaaGreatM06
import Derived.Lib.SliceRun
import Derived.Test.YtggokffdgjedgaaGreatM03
namespace Go.Proofs.YtggokffdgjedgaaGreat
open Go.RowKit

section
variable {P : Program} (w : World)

theorem run_append_where (base : Nat) (t ty e : TypeId) (i : TypeInfo) (z : Value) (size bytes : Nat) (ht : P.underlying t = some (.slice e)) (hi : P.info? e = some i) (hz : i.zero = some z)
    (hsize : i.size = size) (hby : i.bytes = bytes) (hzs : z.cells.size = size) (hsz : 0 < size)
    (v : Value) (n : Nat) (xs : List Value) (hown : w.ownsRow base e size v n xs)
    (a : Addr) (m c : Nat) (news : List Value) (hl : news.length = m * size) (hnews : ∀ j u, news[j]? = some u → w.cell? (a.add j) = some u) (h1 : ∀ u ∈ news, u.oneCell' = true)
    (h63 : n + m ≤ maxLen) (hbytes : (n + m) * bytes ≤ 140737488355328) (hbase : base ≤ w.heap.size) :
    ∃ v' w', (Builtin.append_ #[t, t] ty #[v, .slice (some a) m c]).run P w = .ok v' w' ∧ w'.ownsRow base e size v' (n + m) (xs ++ news) ∧ w.grownBy w' v.ownBlock ∧
      (v'.ownBlock = v.ownBlock ∨ ∀ k, v'.ownBlock = some k → w.heap.size ≤ k) := by
  obtain ⟨v', w', hr, h2, h3, -⟩ := run_append_own (P := P) w base t ty e i z size bytes ht hi hz hsize hby hzs hsz v n xs hown a m c news hl hnews h1 h63 hbytes hbase
  refine ⟨v', w', hr, h2, h3, ?_⟩
  rcases hown.2 with ⟨rfl, rfl⟩ | ⟨g, cap, cur, rfl, hbg, hg, hnc, hcm, hcs, htake⟩
  · right
    obtain ⟨v2, w2, hr2, k2, -, -⟩ := run_append_own (P := P) w w.heap.size t ty e i z size bytes ht hi hz hsize hby hzs hsz (.slice none 0 0) 0 xs ⟨hown.1, .inl ⟨rfl, rfl⟩⟩ a m c news hl hnews h1 h63 hbytes (Nat.le_refl _)
    rw [hr] at hr2
    cases hr2
    exact fun k hk => (World.ownsRow.lt k2 k hk).1
  · by_cases hroom : n + m ≤ cap
    · left
      obtain ⟨w2, hr2, -, -⟩ := run_append_fits (P := P) w base t ty e i size ht hi hsize g n cap xs hown a m c news hl hnews h1 hroom
      rw [hr] at hr2
      cases hr2
      rfl
    · right
      have hsmall : n + m ≤ 9223372036854775807 := by simp only [maxLen] at h63; omega
      have holds : ∀ j u, xs[j]? = some u → w.cell? ((⟨g, 0, none⟩ : Addr).add j) = some u := hown.cells (g := g) rfl
      subst hsize hby
      have hr2 := run_append_grow (P := P) w t ty e i z ht hi hz ⟨g, 0, none⟩ n cap xs hown.1 holds a m c news hl hnews (by omega) (by omega) (growslice_fits (by omega) hbytes)
      rw [hr] at hr2
      cases hr2
      intro k hk
      simp only [Value.ownBlock, Option.some.injEq] at hk
      omega

theorem wpList_append_where {ops : Array Oper} {rest : List Oper} {o : Oper} {a : Act} {Q : Exit → Act → World → Prop} (hgd : o.guard = none) (s x : Operand) (t : TypeId)
    (ho : o.op = .call { callee := .builtin .append, args := #[s, x], argTypes := #[t, t] })
    (base : Nat) (e : TypeId) (ht : P.underlying t = some (.slice e)) (z : Value) (size bytes : Nat) (hinfo : (P.info? e).map (fun i => (i.zero, i.size, i.bytes)) = some (some z, size, bytes)) (hzs : z.cells.size = size) (hsz : 0 < size)
    (v : Value) (n : Nat) (xs : List Value) (hs : a.eval s = v) (hown : w.ownsRow base e size v n xs)
    (ad : Addr) (m c : Nat) (news : List Value) (hx : a.eval x = .slice (some ad) m c) (hl : news.length = m * size) (hnews : ∀ j u, news[j]? = some u → w.cell? (ad.add j) = some u) (h1 : ∀ u ∈ news, u.oneCell' = true)
    (h63 : n + m ≤ maxLen) (hbytes : (n + m) * bytes ≤ 140737488355328) (hbase : base ≤ w.heap.size)
    (h : ∀ v' w', w'.ownsRow base e size v' (n + m) (xs ++ news) → w.grownBy w' v.ownBlock → (v'.ownBlock = v.ownBlock ∨ ∀ k, v'.ownBlock = some k → w.heap.size ≤ k) → wpList P ops Q rest (a.put o.dst v') w') : wpList P ops Q (o :: rest) a w := by
  obtain ⟨i, hi, hz, hsize, hby⟩ := info_parts hinfo
  obtain ⟨v', w', hr, h2, h3, h4⟩ := run_append_where (P := P) w base t o.type e i z size bytes ht hi hz hsize hby hzs hsz v n xs hown ad m c news hl hnews h1 h63 hbytes hbase
  refine wpList_gives hgd v' w' ?_ (h v' w' h2 h3 h4)
  unfold execOp
  simp only [ho, resolve, invoke, builtin, Sem.run_bind, Sem.run_pure, Result.andThen_ok, List.map_toArray, List.map_cons, List.map_nil, hs, hx, hr]

/-- One byte more. -/
theorem wpList_append_byte {ops : Array Oper} {rest : List Oper} {o : Oper} {a : Act} {Q : Exit → Act → World → Prop} (hgd : o.guard = none) (s x : Operand) (t : TypeId)
    (ho : o.op = .call { callee := .builtin .append, args := #[s, x], argTypes := #[t, t] })
    (B : Nat) (e : TypeId) (ht : P.underlying t = some (.slice e)) (hinfo : (P.info? e).map (fun i => (i.zero, i.size, i.bytes)) = some (some (.int .u8 0), 1, 1))
    (v : Value) (l : List UInt8) (g cap : Nat) (y : UInt8) (hs : a.eval s = v) (hx : a.eval x = .slice (some ⟨g, 0, none⟩) 1 cap) (hown : Own e w B v l) (hy : w.cell? ⟨g, 0, none⟩ = some (.int .u8 (y.toNat : Int)))
    (hlen : l.length < 140737488355328) (hbase : B ≤ w.heap.size)
    (h : ∀ v' w', Own e w' B v' (l ++ [y]) → w.grownBy w' v.ownBlock → (v'.ownBlock = v.ownBlock ∨ ∀ k, v'.ownBlock = some k → w.heap.size ≤ k) → wpList P ops Q rest (a.put o.dst v') w') : wpList P ops Q (o :: rest) a w := by
  refine wpList_append_where w hgd s x t ho B e ht (.int .u8 0) 1 1 hinfo rfl (by decide) v l.length (cells l) hs hown ⟨g, 0, none⟩ 1 cap [.int .u8 (y.toNat : Int)] hx rfl ?_ ?_ (by unfold maxLen; omega) (by omega) hbase ?_
  · intro j u hj
    match j, hj with
    | 0, hj => rw [show (⟨g, 0, none⟩ : Addr).add 0 = ⟨g, 0, none⟩ from rfl, hy]; exact hj
    | j + 1, hj => simp at hj
  · intro u hu
    simp only [List.mem_cons, List.not_mem_nil, or_false] at hu
    subst hu
    rfl
  · intro v' w' h2 h3 h4
    refine h v' w' ?_ h3 h4
    unfold Own
    rw [List.length_append, cells_append]
    exact h2
end

end Go.Proofs.YtggokffdgjedgaaGreat

namespace Go.Proofs.YtggokffdgjedgaaGreat
open Go.RowKit

/-- 'append(s, x...)', s the call's own, x not empty: the row is the one it was, or a new one. -/
theorem Lay.Ok.appendW {α : Type} {K : Lay α} {P : Program} (hK : K.Ok P) {ops : Array Oper} {rest : List Oper} {o : Oper} {a : Act} {w : World} {Q : Exit → Act → World → Prop} (hgd : o.guard = none) (s x : Operand) (ho : o.op = .call { callee := .builtin .append, args := #[s, x], argTypes := #[K.row, K.row] })
    (B : Nat) (v xv : Value) (l m : List α) (hs : a.eval s = v) (hx : a.eval x = xv) (hown : K.O w B v l) (hrb : K.R w xv m) (hne : m ≠ []) (hl : l.length + m.length ≤ 1000000) (hbase : B ≤ w.heap.size)
    (h : ∀ v' w', K.O w' B v' (l ++ m) → w.grownBy w' v.ownBlock → (v'.ownBlock = v.ownBlock ∨ ∀ k, v'.ownBlock = some k → w.heap.size ≤ k) → wpList P ops Q rest (a.put o.dst v') w') : wpList P ops Q (o :: rest) a w := by
  obtain ⟨ad, cap, rfl, h1, h2, h3, h4⟩ := hrb
  obtain ⟨b2, o2, rfl, hc⟩ := h4 hne
  have hb : (l.length + m.length) * K.bytes ≤ 140737488355328 := by
    have := Nat.mul_le_mul hl hK.fit
    omega
  refine wpList_append_where w hgd s x K.row ho B K.elem hK.under K.zero K.size K.bytes hK.info hK.zsize hK.pos v l.length (K.flat l) hs hown ⟨b2, o2, none⟩ m.length cap (K.flat m) hx (hK.flat_len m) (fun j u hj => ?_) (hK.flat_one m) (by unfold maxLen; omega) hb hbase (fun v' w' hown' hg hw => h v' w' ?_ hg hw)
  · rw [Addr.add_mid]
    exact hc j u hj
  · unfold Lay.O
    rw [List.length_append, Lay.flat_append]
    exact hown'

abbrev SvT := Option Addr × Nat × Nat
def svE (y : SvT) : Value := .slice y.1 y.2.1 y.2.2
def KR : Lay (Nat × SvT) := ⟨fun e => [.int .i64 (e.1 : Int), .slice e.2.1 e.2.2.1 e.2.2.2], 2, 117, 118, .agg #[.int .i64 0, .slice none 0 0], 32⟩
theorem KR_ok : KR.Ok Tryz.prog := ⟨by decide, fun _ => rfl, fun x u hu => by
  rcases List.mem_cons.1 hu with rfl | hu
  · rfl
  · rw [List.mem_singleton.1 hu]; rfl, Tryz.underlying118, by kernel_rfl, rfl, by decide⟩
theorem KR.one' (w : World) (c : Nat) (a : Option Addr) (n k : Nat) : KR.R (w.alloc (.cells #[.int .i64 (c : Int), .slice a n k] 117)) (.slice (some ⟨w.heap.size, 0, none⟩) 1 1) [(c, a, n, k)] := Lay.R.one w KR_ok (c, a, n, k) 117 (0, 0)
theorem KR.at' {w : World} {a : Option Addr} {n cap : Nat} {l : List (Nat × SvT)} (h : KR.R w (.slice a n cap) l) (i : Nat) (hi : i < l.length) : ∃ b o, a = some ⟨b, o, none⟩ ∧ n = l.length ∧ b < w.heap.size ∧ w.cell? ⟨b, o + i * 2, none⟩ = some (.int .i64 (l[i].1 : Int)) ∧ w.cell? ⟨b, o + i * 2 + 1, none⟩ = some (svE l[i].2) := by
  obtain ⟨b, o, h1, h2, h3, h4⟩ := h.at KR_ok i hi
  exact ⟨b, o, h1, h2, h3, h4 0 _ rfl, h4 1 _ rfl⟩
theorem idxR (b o n cap j : Nat) (h : j < n) (W : World) : (Instr.indexAt 118 (.slice (some ⟨b, o, none⟩) n cap) (.int .i64 (j : Int))).run Tryz.prog W = .ok (.pointer (some ⟨b, o + j * 2, none⟩)) W := KR_ok.run_idx b o n cap j h W
theorem idx8 (g b : Nat) (hb : b < 8) (W : World) : (Instr.indexAt 115 (.pointer (some ⟨g, 0, none⟩)) (.int .i64 (b : Int))).run Tryz.prog W = .ok (.pointer (some ⟨g, b, none⟩)) W := by
  have hu : Tryz.prog.underlying 115 = some (.array 8 4) := by kernel_rfl
  have hs : (Tryz.prog.info? 4).map (fun i => i.size) = some 1 := by kernel_rfl
  have h8 : ¬ 8 ≤ b := by omega
  have h8' : (b : Int) < 8 := by omega
  cases hi : Tryz.prog.info? 4 with
  | none => rw [hi] at hs; cases hs
  | some i =>
    rw [hi] at hs
    have hs' : i.size = 1 := by simpa using hs
    simp [Instr.indexAt, run_underlying hu, Instr.sureAddr, asIntOf, h8, sizeOf, typeInfo, hi, hs', Result.andThen, Addr.add_mid]

/-- Whose rows are of other types is another block. -/
theorem Lay.O.neOf {α : Type} {K : Lay α} {w : World} {B : Nat} {v : Value} {l : List α} (h : K.O w B v l) {g : Nat} {cs : Array Value} {t : TypeId} {fr : Nat × Nat} (hg : w.heap[g]? = some (.cells cs t fr)) (ht : t ≠ K.elem) : v.ownBlock ≠ some g := by
  rcases h.2 with ⟨rfl, -⟩ | ⟨q, cap, cur, rfl, -, h2, -⟩
  · intro e; cases e
  · intro e
    simp only [Value.ownBlock, Option.some.injEq] at e
    subst e
    rw [h2] at hg
    cases hg
    exact ht rfl

/-- A bucket, the value that holds the way to it, that way. -/
abbrev LnT := Nat × SvT × List (Nat × Nat)
def bkL (L : List LnT) : List Nat := L.map Prod.fst
def reL (L : List LnT) : List ReT := L.map fun x => (x.1, x.2.2)
theorem bks_re (L : List LnT) : bks (reL L) = bkL L := by unfold bks reL bkL; rw [List.map_map]; rfl
/-- The buckets that are reached, in memory: u their slice, at block g which of the eight they are (M). -/
structure BG (w : World) (B g : Nat) (u : Value) (L : List LnT) (M : List Nat) : Prop where
  row : KR.O w B u (L.map fun x => (x.1, x.2.1))
  ways : ∀ x ∈ L, KP.O w B (svE x.2.1) x.2.2
  seen : ∀ b, b < 8 → w.cell? ⟨g, b, none⟩ = some (.bool (decide (b ∈ M)))
  blk : ∃ cs, w.heap[g]? = some (.cells cs 115 (0, 0))
section
variable {w w' : World} {B g : Nat} {u : Value} {L : List LnT} {M : List Nat}
theorem BG.below (h : BG w B g u L M) (hb : Below w.heap.size w w') : BG w' B g u L M := by
  obtain ⟨cs, hc⟩ := h.blk
  exact ⟨h.row.below hb, fun x hx => (h.ways x hx).below hb, fun b h8 => (hb.cell (World.block_lt_of_cell? w _ (h.seen b h8))).trans (h.seen b h8), ⟨cs, (hb.block g (Array.getElem?_eq_some_iff.1 hc).1).trans hc⟩⟩
theorem BG.frozen (h : BG w B g u L M) (o : Nat) : w.frozen? ⟨g, o, none⟩ = false := by
  obtain ⟨cs, hc⟩ := h.blk
  exact frozen_of_row _ _ _ _ _ hc
theorem BG.mark (h : BG w B g u L M) {t : Nat} (ht : t < 8) : BG (w.setCell ⟨g, t, none⟩ (.bool true)) B g u L (M ++ [t]) := by
  obtain ⟨cs, hc⟩ := h.blk
  have hb : ∀ k, k ≠ g → (w.setCell ⟨g, t, none⟩ (.bool true)).heap[k]? = w.heap[k]? := fun k hk => Below.heap_setCell _ _ _ _ hk
  refine ⟨h.row.same fun q qs hq _ _ => hb q ?_, fun x hx => (h.ways x hx).same fun q qs hq _ _ => hb q ?_, fun b h8 => ?_, ⟨cs.setIfInBounds t (.bool true), by simp [World.setCell, Array.getElem?_modify, hc]⟩⟩
  · rintro rfl; rw [hc] at hq; cases hq
  · rintro rfl; rw [hc] at hq; cases hq
  · by_cases e : b = t
    · subst e
      rw [World.cell?_setCell_same _ _ _ (h.seen b h8)]
      simp
    · rw [World.cell?_setCell_other _ _ _ _ (fun e2 => by simp only [Addr.mk.injEq] at e2; omega), h.seen b h8]
      simp [e]
theorem BG.more (h : BG w B g u L M) {v' : Value} {t : Nat} {y : SvT} {P : List (Nat × Nat)} (hown : KR.O w' B v' ((L.map fun x => (x.1, x.2.1)) ++ [(t, y)])) (hgr : w.grownBy w' u.ownBlock) (hy : KP.O w B (svE y) P) : BG w' B g v' (L ++ [(t, y, P)]) M := by
  obtain ⟨cs, hc⟩ := h.blk
  have hgl : g < w.heap.size := (Array.getElem?_eq_some_iff.1 hc).1
  have hgb : w'.heap[g]? = w.heap[g]? := hgr.block g hgl (fun e => h.row.neOf hc (by decide) e.symm)
  have hw : ∀ (v : Value) (l : List (Nat × Nat)), KP.O w B v l → KP.O w' B v l := fun v l hv => hv.same fun q qs hq _ _ => hgr.block q (Array.getElem?_eq_some_iff.1 hq).1 (fun e => h.row.neOf hq (by decide) e.symm)
  refine ⟨by rw [List.map_append]; exact hown, fun x hx => ?_, fun b h8 => (World.cell?_of_block (w := w) (a := ⟨g, b, none⟩) hgb).trans (h.seen b h8), ⟨cs, hgb.trans hc⟩⟩
  rcases List.mem_append.1 hx with hx | hx
  · exact hw _ _ (h.ways x hx)
  · rw [List.mem_singleton.1 hx]; exact hw _ _ hy
end

def z8 (a b : Nat) : Array Value := (([Value.bool false, .bool false, .bool false, .bool false, .bool false, .bool false, .bool false, .bool false].set a (.bool true)).set b (.bool true)).toArray
theorem z8_at (a b c : Nat) (ha : a < 8) (hb : b < 8) (hc : c < 8) : (z8 a b)[c]? = some (.bool (decide (c ∈ [a, b]))) := by
  unfold z8
  rw [List.getElem?_toArray]
  have h0 : [Value.bool false, .bool false, .bool false, .bool false, .bool false, .bool false, .bool false, .bool false] = List.replicate 8 (Value.bool false) := rfl
  rw [h0]
  by_cases e1 : b = c
  · subst e1
    rw [List.getElem?_set_self (by simpa using hb)]
    simp
  · rw [List.getElem?_set_ne e1]
    by_cases e2 : a = c
    · subst e2
      rw [List.getElem?_set_self (by simpa using ha)]
      simp
    · rw [List.getElem?_set_ne e2, List.getElem?_replicate, if_pos hc]
      have e3 : c ∉ [a, b] := by simp only [List.mem_cons, List.not_mem_nil, or_false]; omega
      rw [decide_eq_false e3]
def line0 (a b : Nat) : List LnT := [(a, (none, 0, 0), []), (b, (none, 0, 0), [])]
theorem BG.start (w : World) {a b : Nat} (ha : a < 8) (hb : b < 8) : BG ((w.alloc (.cells (z8 a b) 115)).alloc (.cells #[.int .i64 (a : Int), .slice none 0 0, .int .i64 (b : Int), .slice none 0 0] 117)) w.heap.size w.heap.size (.slice (some ⟨w.heap.size + 1, 0, none⟩) 2 2) (line0 a b) [a, b] := by
  have h1 := heap_alloc_new w (.cells (z8 a b) 115)
  have hs : (w.alloc (.cells (z8 a b) 115)).heap.size = w.heap.size + 1 := Array.size_push ..
  have h2 := heap_alloc_new (w.alloc (.cells (z8 a b) 115)) (.cells #[.int .i64 (a : Int), .slice none 0 0, .int .i64 (b : Int), .slice none 0 0] 117)
  have h3 : ((w.alloc (.cells (z8 a b) 115)).alloc (.cells #[.int .i64 (a : Int), .slice none 0 0, .int .i64 (b : Int), .slice none 0 0] 117)).heap[w.heap.size]? = some (.cells (z8 a b) 115) := (Below.heap_alloc _ _ _ (by omega)).trans h1
  rw [hs] at h2
  refine ⟨⟨rfl, .inr ⟨_, 2, _, rfl, Nat.le_succ _, h2, Nat.le_refl _, by simp [maxLen], rfl, rfl⟩⟩, fun x hx => ?_, fun c hc => ?_, ⟨_, h3⟩⟩
  · simp only [line0, List.mem_cons, List.not_mem_nil, or_false] at hx
    rcases hx with rfl | rfl
    · exact Lay.O.nil _ _
    · exact Lay.O.nil _ _
  · rw [cell_of_row _ _ _ _ _ _ h3]
    exact z8_at a b c ha hb hc

set_option maxHeartbeats 1000000 in
set_option maxRecDepth 100000 in
theorem cclone_c (w : World) (B : Nat) (v : Value) (P : List (Nat × Nat)) (h : KP.O w B v P) (hn : P.length ≤ 1000) : Calls Tryz.prog 64 #[v] w fun e w' => ∃ v', e = .returned v' ∧ KP.O w' w.heap.size v' P ∧ Below w.heap.size w w' := by
  rcases h.2 with ⟨rfl, h0⟩ | ⟨g, cap, cur, rfl, -, -⟩
  · obtain rfl : P = [] := List.eq_nil_of_length_eq_zero h0
    have hq := fun w => Go.Lib.run_eql_slice_nil (P := Tryz.prog) w 91 96 none 0 0 0 0 Tryz.underlying91
    have HB := Go.Lib.hid (Below.refl w.heap.size w)
    clear h hn h0
    go_enter Tryz.func64, Tryz.ntmps64
    go_wp2_with fail
    go_ret
    exact ⟨_, rfl, Lay.O.nil _ _, HB.out⟩
  · have hq := fun w => Go.Lib.run_eql_slice_nil (P := Tryz.prog) w 91 96 (some ⟨g, 0, none⟩) P.length cap 0 0 Tryz.underlying91
    have hb1 := (Below.refl w.heap.size w).alloc (Nat.le_refl _) (.cells #[] 96)
    have HO := Go.Lib.hid (show KP.O (w.alloc (.cells #[] 96)) w.heap.size (.slice (some ⟨w.heap.size, 0, none⟩) 0 0) [] from ⟨rfl, .inr ⟨w.heap.size, 0, #[], rfl, Nat.le_refl _, heap_alloc_new w _, Nat.le_refl _, by simp [maxLen], rfl, rfl⟩⟩)
    have HR := Go.Lib.hid (h.r.below hb1)
    have HN := Go.Lib.hid hn
    have HB := Go.Lib.hid hb1
    clear h hn hb1
    go_enter Tryz.func64, Tryz.ntmps64
    go_wp2_with (first
      | ((with_reducible show wpList _ _ _ (⟨some 7, _, _, _, _, _⟩ :: _) _ _); go_loud (refine KP_ok.append rfl (.tmp 5) (.tmp 6) rfl w.heap.size (.slice (some ⟨w.heap.size, 0, none⟩) 0 0) (.slice (some ⟨g, 0, none⟩) P.length cap) [] P rfl rfl HO.out HR.out (by have := HN.out; simp; omega) HB.out.size ?_); intro v2 w2 hown2 hg2; have HB2 := Go.Lib.hid (HB.out.grown hg2 HB.out.size HO.out.row); have HO2 := Go.Lib.hid hown2; clear hown2 hg2)
      | fail)
    go_ret
    exact ⟨_, rfl, HO2.out, HB2.out⟩

end Go.Proofs.YtggokffdgjedgaaGreat

namespace Go.Proofs.YtggokffdgjedgaaGreat
open Go.RowKit

/-- A way to room, or none: all that can be reached is full. -/
def WayOk (T : SlT) (a b : Nat) (W : List (Nat × Nat)) : Prop := (W = [] ∧ ∃ L : List ReT, LineOk T a b L ∧ DoneT T L L.length 0) ∨
  ∃ c P e s, (c = a ∨ c = b) ∧ W = P ++ [(e, s)] ∧ e < 8 ∧ s < 4 ∧ T (4 * e + s) = none ∧ Chain T c P e ∧ (∀ p ∈ P, p.1 < 8) ∧ (P.map Prod.fst ++ [e]).Nodup
def WayTo (T : SlT) (a b : Nat) (B : Nat) (w : World) (v : Value) : Prop := ∃ W, KP.O w B v W ∧ WayOk T a b W
theorem bk_snoc (L : List LnT) (x : LnT) : bkL (L ++ [x]) = bkL L ++ [x.1] := by unfold bkL; rw [List.map_append]; rfl
theorem re_snoc (L : List LnT) (x : LnT) : reL (L ++ [x]) = reL L ++ [(x.1, x.2.2)] := by unfold reL; rw [List.map_append]; rfl
theorem re_len (L : List LnT) : (reL L).length = L.length := by unfold reL; rw [List.length_map]
theorem re_at {L : List LnT} {i : Nat} {x : LnT} (h : L[i]? = some x) : ∃ hi : i < (reL L).length, (reL L)[i] = (x.1, x.2.2) := by
  obtain ⟨hi, rfl⟩ := List.getElem?_eq_some_iff.1 h
  refine ⟨by rw [re_len]; exact hi, ?_⟩
  unfold reL
  rw [List.getElem_map]
/-- Within a round: the bucket c is looked at (p: the block of what was taken out of the line), its first s slots are done. -/
structure InW (T : SlT) (a b g p c i s : Nat) (y : SvT) (P : List (Nat × Nat)) (w : World) (u : Value) (L : List LnT) : Prop where
  bg : BG w g g u L (bkL L)
  ok : LineOk T a b (reL L)
  done : DoneT T (reL L) i s
  il : L[i]? = some (c, y, P)
  b0 : w.cell? ⟨p, 0, none⟩ = some (.int .i64 (c : Int))
  b1 : w.cell? ⟨p, 1, none⟩ = some (svE y)
  up : u.ownBlock ≠ some p
  pg : p ≠ g
section
variable {T : SlT} {a b g p c i s : Nat} {y : SvT} {P : List (Nat × Nat)} {w w' w1 w2 : World} {u v' : Value} {L : List LnT}
theorem InW.below (h : InW T a b g p c i s y P w u L) (hb : Below w.heap.size w w') : InW T a b g p c i s y P w' u L :=
  ⟨h.bg.below hb, h.ok, h.done, h.il, (hb.cell (World.block_lt_of_cell? w _ h.b0)).trans h.b0, (hb.cell (World.block_lt_of_cell? w _ h.b1)).trans h.b1, h.up, h.pg⟩
theorem InW.step (h : InW T a b g p c i s y P w u L) {x : Nat × Int} (hT : T (4 * c + s) = some x) (hin : othN c x.1 ∈ bkL L) : InW T a b g p c i (s + 1) y P w u L := by
  obtain ⟨hi, e⟩ := re_at h.il
  refine ⟨h.bg, h.ok, h.done.step hi (x := x) ?_ ?_, h.il, h.b0, h.b1, h.up, h.pg⟩
  · rw [e]; exact hT
  · rw [e, bks_re]; exact hin
theorem InW.mark (h : InW T a b g p c i s y P w u L) {t : Nat} (ht : t < 8) : BG (w.setCell ⟨g, t, none⟩ (.bool true)) g g u L (bkL L ++ [t]) ∧ (w.setCell ⟨g, t, none⟩ (.bool true)).cell? ⟨p, 0, none⟩ = some (.int .i64 (c : Int)) ∧ (w.setCell ⟨g, t, none⟩ (.bool true)).cell? ⟨p, 1, none⟩ = some (svE y) := by
  have hne : ∀ o o', (⟨g, o, none⟩ : Addr) ≠ ⟨p, o', none⟩ := fun o o' e => by
    simp only [Addr.mk.injEq] at e
    exact h.pg e.1.symm
  exact ⟨h.bg.mark ht, (World.cell?_setCell_other _ _ _ _ (hne _ _)).trans h.b0, (World.cell?_setCell_other _ _ _ _ (hne _ _)).trans h.b1⟩
theorem InW.more (h : InW T a b g p c i s y P w u L) (hs : s < 4) {x : Nat × Int} (hT : T (4 * c + s) = some x) (hnew : othN c x.1 ∉ bkL L) {y' : SvT}
    (hb : Below (w.setCell ⟨g, othN c x.1, none⟩ (.bool true)).heap.size (w.setCell ⟨g, othN c x.1, none⟩ (.bool true)) w1)
    (hown : KR.O w2 g v' ((L.map fun x => (x.1, x.2.1)) ++ [(othN c x.1, y')])) (hgr : w1.grownBy w2 u.ownBlock) (hwh : v'.ownBlock = u.ownBlock ∨ ∀ k, v'.ownBlock = some k → w1.heap.size ≤ k)
    (hy : KP.O w g (svE y') (P ++ [(c, s)])) : InW T a b g p c i (s + 1) y P w2 v' (L ++ [(othN c x.1, y', P ++ [(c, s)])]) := by
  obtain ⟨hi, e⟩ := re_at h.il
  have hil := (List.getElem?_eq_some_iff.1 h.il).1
  have h8 : c < 8 := by
    have := h.ok.lt _ (List.getElem_mem hi)
    rw [e] at this
    exact this
  have ht := oth_lt x.1 h8
  obtain ⟨m1, m2, m3⟩ := h.mark ht
  have hok := h.ok.more hi hs (x := x) (by rw [e]; exact hT) (by rw [e, bks_re]; exact hnew)
  rw [e] at hok
  have hdone := (h.done.grow hi (othN c x.1, P ++ [(c, s)])).step (x := x) (by rw [List.length_append]; omega) (by rw [List.getElem_append_left hi, e]; exact hT) (by
    rw [List.getElem_append_left hi, e]
    unfold bks
    rw [List.map_append]
    exact List.mem_append_right _ (List.mem_singleton.2 rfl))
  obtain ⟨cs, hc⟩ := h.bg.blk
  have hyk : KP.O (w.setCell ⟨g, othN c x.1, none⟩ (.bool true)) g (svE y') (P ++ [(c, s)]) := hy.same fun q qs hq _ _ => Below.heap_setCell _ _ _ _ (by rintro rfl; rw [hc] at hq; cases hq)
  have hbg := (m1.below hb).more (t := othN c x.1) (y := y') (P := P ++ [(c, s)]) hown hgr (hyk.below hb)
  have hp1 : p < (w.setCell ⟨g, othN c x.1, none⟩ (.bool true)).heap.size := World.block_lt_of_cell? _ _ m2
  have hp2 : p < w1.heap.size := Nat.lt_of_lt_of_le hp1 hb.size
  have hpb : w2.heap[p]? = w1.heap[p]? := hgr.block p hp2 (fun e => h.up e.symm)
  have k0 := (hb.cell hp1).trans m2
  have k1 := (hb.cell hp1).trans m3
  refine ⟨by rw [bk_snoc]; exact hbg, by rw [re_snoc]; exact hok, by rw [re_snoc]; exact hdone, by rw [List.getElem?_append_left hil]; exact h.il, (World.cell?_of_block (w := w1) (a := ⟨p, 0, none⟩) hpb).trans k0, (World.cell?_of_block (w := w1) (a := ⟨p, 1, none⟩) hpb).trans k1, ?_, h.pg⟩
  intro e2
  rcases hwh with hwh | hwh
  · exact h.up (hwh.symm.trans e2)
  · have := hwh p e2
    omega
end
def VWa (d p c : Nat) (R : List Value) : Nat → World → Value → Prop
  | 34, _, v => v = .pointer (some ⟨d, 0, none⟩)
  | 35, _, v => v = .pointer (some ⟨p, 0, none⟩)
  | 36, _, v => v = .int .i64 (c : Int)
  | 37, _, v => v = .pointer (some ⟨d, 0, none⟩)
  | 38, _, v => v = .pointer (some ⟨d, 0, none⟩)
  | 39, _, v => v = .pointer (some ⟨d, 12 * c, none⟩)
  | 40, _, v => v = .agg R.toArray
  | 41, _, v => v = .int .i64 0
  | _, _, _ => True

theorem VWa_below (d p c : Nat) (R : List Value) : ∀ (i : Nat) (w w' : World) (v : Value), VWa d p c R i w v → Below w.heap.size w w' → VWa d p c R i w' v := by
  intro i w w' v h hb
  unfold VWa at h ⊢
  split at h <;> first | exact h | trivial | exact Lay.R.below h hb | exact Lay.O.below h hb

def VWb (p c s B : Nat) (ya : Option Addr) (yn yk : Nat) (P : List (Nat × Nat)) : Nat → World → Value → Prop
  | 45, _, v => v = .pointer (some ⟨p, 1, none⟩)
  | 46, _, v => v = .slice ya yn yk
  | 47, w, v => KP.O w B v P
  | 48, _, v => v = .pointer (some ⟨p, 0, none⟩)
  | 49, _, v => v = .int .i64 (c : Int)
  | 50, _, v => v = .int .i64 (s : Int)
  | 51, _, v => v = .agg #[.int .i64 (c : Int), .int .i64 (s : Int)]
  | 52, w, v => KP.R w v [(c, s)]
  | _, _, _ => True

theorem VWb_below (p c s B : Nat) (ya : Option Addr) (yn yk : Nat) (P : List (Nat × Nat)) : ∀ (i : Nat) (w w' : World) (v : Value), VWb p c s B ya yn yk P i w v → Below w.heap.size w w' → VWb p c s B ya yn yk P i w' v := by
  intro i w w' v h hb
  unfold VWb at h ⊢
  split at h <;> first | exact h | trivial | exact Lay.R.below h hb | exact Lay.O.below h hb

set_option maxHeartbeats 4000000 in
set_option maxRecDepth 100000 in
theorem cway_c {w : World} {d : Nat} {T : SlT} (h : CK w d T) {a b : Nat} (ha : a < 8) (hb : b < 8) (hab : a ≠ b) :
    Calls Tryz.prog 52 #[.pointer (some ⟨d, 0, none⟩), .int .i64 (a : Int), .int .i64 (b : Int)] w fun e w' => ∃ v, e = .returned v ∧ Below w.heap.size w w' ∧ WayTo T a b w.heap.size w' v := by
  have HD := Go.Lib.hid fun W (hW : Below w.heap.size w W) => h.below hW
  have HTOK := Go.Lib.hid h.tok
  have HR := Go.Lib.hid (idxRow T)
  have HLEN := Go.Lib.hid (fun b => show (Tryz.prog.info? 79).map (·.size) = some (rowO T b).length by kernel_rfl)
  have HST := Go.Lib.hid (LineOk.start (T := T) ha hb hab)
  have ia := fun g W => idx8 g a ha W
  have ib := fun g W => idx8 g b hb W
  clear h
  go_enter Tryz.func52, Tryz.ntmps52
  go_upto_region 3 with (fail)
  obtain ⟨g, hg⟩ : ∃ g, g = w.heap.size := ⟨_, rfl⟩
  have hz8 : (([Value.bool false, .bool false, .bool false, .bool false, .bool false, .bool false, .bool false, .bool false].set a (.bool true)).set b (.bool true)).toArray = z8 a b := rfl
  rw [hz8]
  have HBG := Go.Lib.hid (BG.start w ha hb)
  have HB0 := Go.Lib.hid ((Below.refl w.heap.size w).alloc (Nat.le_refl _) (.cells (z8 a b) 115))
  have HS0 := Go.Lib.hid (show (w.alloc (.cells (z8 a b) 115)).heap.size = w.heap.size + 1 from Array.size_push ..)
  clear hz8 ia ib
  rw [← hg]
  rw [← hg] at HBG HB0 HS0 HD
  generalize w.alloc (.cells (z8 a b) 115) = w1 at *
  have HG0 := Go.Lib.hid hg
  clear hg
  have HB1 := Go.Lib.hid (HB0.out.alloc (by have := HS0.out; omega) (.cells #[.int .i64 (a : Int), .slice none 0 0, .int .i64 (b : Int), .slice none 0 0] 117))
  rw [← HS0.out] at HBG
  go_wp2_with fail
  go_loopw [8, 9] (fun lv iv wr => ∃ (i : Nat) (u : Value) (L : List LnT), u = lv ∧ i ≤ L.length ∧ iv = .int .i64 (i : Int) ∧ Hid (BG wr g g u L (bkL L)) ∧ Hid (LineOk T a b (reL L) ∧ DoneT T (reL L) i 0) ∧ Hid (Below g w wr)) (fun _ iv _ => 8 - (intOf iv).toNat)
  case atStart => exact ⟨0, _, line0 a b, rfl, by omega, rfl, HBG, Go.Lib.hid ⟨HST.out, DoneT.zero _ _⟩, HB1⟩
  case round =>
    obtain ⟨i, u, L, rfl, hi, rfl, HBG, HLO, HB⟩ := hrel
    have HGW := Go.Lib.hid (show g ≤ wr.heap.size by rw [HG0.out]; exact HB.out.size)
    have HL8 := Go.Lib.hid (show L.length ≤ 8 by have := HLO.out.1.len; rwa [re_len] at this)
    obtain ⟨au, cu, rfl, hum⟩ := HBG.out.row.r.form
    have hlen : (L.map fun x => (x.1, x.2.1)).length = L.length := List.length_map _
    rw [hlen] at HBG ⊢
    by_cases hil : i < L.length
    · obtain ⟨bq, o, rfl, -, hbs, c0, c1⟩ := KR.at' HBG.out.row.r i (by rw [hlen]; exact hil)
      have hix := idxR bq o L.length cu i hil wr
      obtain ⟨x, hx⟩ : ∃ x, L[i]? = some x := ⟨_, List.getElem?_eq_getElem hil⟩
      obtain ⟨c, ⟨ya, yn, yk⟩, P⟩ := x
      have hxi : L[i] = (c, (ya, yn, yk), P) := by
        have := List.getElem?_eq_getElem hil
        rw [hx] at this
        exact (Option.some.inj this).symm
      rw [List.getElem_map, hxi] at c0 c1
      simp only [svE] at c0 c1
      obtain ⟨hri, hre⟩ := re_at hx
      have hc8 : c < 8 := by
        have := HLO.out.1.lt _ (List.getElem_mem hri)
        rw [hre] at this
        exact this
      have HIL := Go.Lib.hid hx
      have hb2 := (Below.refl wr.heap.size wr).alloc (Nat.le_refl _) (.cells #[.int .i64 (c : Int), .slice ya yn yk] 117)
      have HBG3 := Go.Lib.hid (HBG.out.below hb2)
      have HB3 := Go.Lib.hid (HB.out.trans (hb2.mono HGW.out))
      have HGW3 := Go.Lib.hid (show g ≤ (wr.alloc (.cells #[.int .i64 (c : Int), .slice ya yn yk] 117)).heap.size from Nat.le_trans HGW.out hb2.size)
      have HG := Go.Lib.hid (heap_alloc_new wr (.cells #[.int .i64 (c : Int), .slice ya yn yk] 117))
      have HUP := Go.Lib.hid (show (Value.slice (some ⟨bq, o, none⟩) L.length cu).ownBlock ≠ some wr.heap.size from fun e => by have := HBG.out.row.lt _ e; omega)
      have HPG := Go.Lib.hid (show wr.heap.size ≠ g from fun e => by
        obtain ⟨cs, hcs⟩ := HBG.out.blk
        have := (Array.getElem?_eq_some_iff.1 hcs).1
        omega)
      have hir := HR.out c
      have HL2 := Go.Lib.hid (HLEN.out c)
      have h1 := fun W => idxB d c hc8 W
      clear hb2 hxi hri hre hx hlen
      go_upto_region 8 with (fail)
      obtain ⟨p, hp⟩ : ∃ p, p = wr.heap.size := ⟨_, rfl⟩
      rw [← hp] at HG HUP HPG ⊢
      clear hp c0 c1 hix hbs HBG HB HGW
      generalize wr.alloc (.cells #[.int .i64 (c : Int), .slice ya yn yk] 117) = w3 at *
      have x0 : w3.cell? ⟨p, 0, none⟩ = some (.int .i64 (c : Int)) := by rw [cell_of_row _ _ _ _ _ _ HG.out]; rfl
      have x1 : w3.cell? ⟨p, 1, none⟩ = some (.slice ya yn yk) := by rw [cell_of_row _ _ _ _ _ _ HG.out]; rfl
      have HRG := Go.Lib.hid (fun W (hW : Below w3.heap.size w3 W) => show W.rangeAt d (12 * c) (rowO T c) from (HD.out W (HB3.out.trans (hW.mono HGW3.out))).range c hc8)
      have HIN := Go.Lib.hid (show InW T a b g p c i 0 (ya, yn, yk) P w3 (.slice (some ⟨bq, o, none⟩) L.length cu) L from ⟨HBG3.out, HLO.out.1, HLO.out.2, HIL.out, x0, x1, HUP.out, HPG.out⟩)
      clear HBG3 HLO HIL HG HUP HPG
      generalize rowO T c = R at *
      refine wp_region_each (by kernel_rfl) (VWa d p c R) (VWa_below d p c R) (by decide +kernel) (by decide +kernel) (by rfl) [34, 35, 36, 37, 38, 39, 40, 41] (by rfl) ?_ ?_
      · intro i o ho a w6 hb6 hlen hg
        have x0 := keepC x0 hb6
        have hrg := HRG.out w6 hb6
        match i, ho with
        | 0, ho =>
          obtain rfl := Option.some.inj ho
          have h0 := given_old hg 0 (by decide +kernel)
          clear hg
          exact st_yield ho (wanted_none rfl) (.pointer (some ⟨d, 0, none⟩)) w6 (by simp [execOp, Act.eval, h0, go_sem]) ⟨_, rfl, Below.refl _ _, by rintro t' ⟨⟩; rfl⟩
        | 1, ho =>
          obtain rfl := Option.some.inj ho
          have h10 := given_old hg 10 (by decide +kernel)
          clear hg
          exact st_yield ho (wanted_none rfl) (.pointer (some ⟨p, 0, none⟩)) w6 (by simp [execOp, Act.eval, h10, go_sem]) ⟨_, rfl, Below.refl _ _, by rintro t' ⟨⟩; rfl⟩
        | 2, ho =>
          obtain rfl := Option.some.inj ho
          obtain ⟨_, h35, rfl⟩ := given_fed hg 35 (by decide +kernel)
          clear hg
          exact st_yield ho (wanted_none rfl) (.int .i64 (c : Int)) w6 (by simp [execOp, Act.eval, h35, go_sem, x0]) ⟨_, rfl, Below.refl _ _, by rintro t' ⟨⟩; rfl⟩
        | 3, ho =>
          obtain rfl := Option.some.inj ho
          obtain ⟨_, h34, rfl⟩ := given_fed hg 34 (by decide +kernel)
          clear hg
          exact st_yield ho (wanted_none rfl) (.pointer (some ⟨d, 0, none⟩)) w6 (by simp [execOp, Act.eval, h34, go_sem]) ⟨_, rfl, Below.refl _ _, by rintro t' ⟨⟩; rfl⟩
        | 4, ho =>
          obtain rfl := Option.some.inj ho
          obtain ⟨_, h37, rfl⟩ := given_fed hg 37 (by decide +kernel)
          clear hg
          exact st_yield ho (wanted_none rfl) (.pointer (some ⟨d, 0, none⟩)) w6 (by simp [execOp, Act.eval, h37, go_sem]) ⟨_, rfl, Below.refl _ _, by rintro t' ⟨⟩; rfl⟩
        | 5, ho =>
          obtain rfl := Option.some.inj ho
          obtain ⟨_, h38, rfl⟩ := given_fed hg 38 (by decide +kernel)
          obtain ⟨_, h36, rfl⟩ := given_fed hg 36 (by decide +kernel)
          clear hg
          exact st_yield ho (wanted_none rfl) (.pointer (some ⟨d, 12 * c, none⟩)) w6 (by simp [execOp, Act.eval, h38, h36, go_sem, h1]) ⟨_, rfl, Below.refl _ _, by rintro t' ⟨⟩; rfl⟩
        | 6, ho =>
          obtain rfl := Option.some.inj ho
          obtain ⟨_, h39, rfl⟩ := given_fed hg 39 (by decide +kernel)
          clear hg
          exact st_list ho (wanted_none rfl) fun Q' hQ => wpList_load_mid rfl 79 (.tmp 39) rfl d (12 * c) (by simp [Act.eval, h39]) R _ hrg Tryz.underlying79 rfl HL2.out (wpList_nil (hQ _ _ ⟨_, rfl, Below.refl _ _, by rintro t' ⟨⟩; rfl⟩))
        | 7, ho =>
          obtain rfl := Option.some.inj ho
          clear hg
          exact st_yield ho (wanted_none rfl) (.int .i64 0) w6 (by simp [execOp, Act.eval, go_sem]) ⟨_, rfl, Below.refl _ _, by rintro t' ⟨⟩; rfl⟩
        | n + 8, ho => simp at ho
      · intro f w6 hb6 hv
        have h40 := hv 40 (by decide)
        have h41 := hv 41 (by decide)
        simp only [VWa] at h40 h41
        have HIN6 := Go.Lib.hid (HIN.out.below hb6)
        have HB6 := Go.Lib.hid (HB3.out.trans (hb6.mono HGW3.out))
        clear hv hb6 HIN HB3 x0 x1
        unfold putAll
        simp only [List.foldl]
        simp only [h40, h41]
        go_simp
        clear HRG
        go_wp2_with fail
        go_loopw [8, 41] (fun lv sv wr => ∃ (s : Nat) (u : Value) (L : List LnT), u = lv ∧ s ≤ 4 ∧ sv = .int .i64 (s : Int) ∧ Hid (InW T a b g p c i s (ya, yn, yk) P wr u L) ∧ Hid (Below g w wr)) (fun _ sv _ => 4 - (intOf sv).toNat)
        case atStart => exact ⟨0, _, L, rfl, by omega, rfl, HIN6, HB6⟩
        case round =>
          obtain ⟨s, u, L, rfl, hs, rfl, HIN, HB⟩ := hrel
          by_cases hs4 : s < 4
          · have hsI : (s : Int) < 4 := by omega
            have hie := hir s hs4
            have HTQ := Go.Lib.hid (show (hasO (T (4 * c + s)) = false ∧ T (4 * c + s) = none) ∨ (hasO (T (4 * c + s)) = true ∧ ∃ x : Nat × Int, T (4 * c + s) = some x ∧ x.1 = tagO (T (4 * c + s)) ∧ x.1 < 32768) by
              cases hT : T (4 * c + s) with
              | none => exact .inl ⟨rfl, rfl⟩
              | some x => exact .inr ⟨rfl, x, rfl, rfl, (HTOK.out _ _ hT).2⟩)
            have HGW := Go.Lib.hid (show g ≤ wr.heap.size by rw [HG0.out]; exact HB.out.size)
            generalize hasO (T (4 * c + s)) = hh at *
            generalize tagO (T (4 * c + s)) = tt at *
            generalize idO (T (4 * c + s)) = ii at *
            have hb2 := (Below.refl wr.heap.size wr).alloc (Nat.le_refl _) (.cells #[.bool hh, .int .i64 (tt : Int), .int .i64 ii] 78)
            have HIN4 := Go.Lib.hid (HIN.out.below hb2)
            have HB4 := Go.Lib.hid (HB.out.trans (hb2.mono HGW.out))
            have HGW4 := Go.Lib.hid (Nat.le_trans HGW.out hb2.size)
            have HQ := Go.Lib.hid (heap_alloc_new wr (.cells #[.bool hh, .int .i64 (tt : Int), .int .i64 ii] 78))
            clear hb2 hir HIN HB HGW
            go_upto_region 11 with (fail)
            obtain ⟨q, hq⟩ : ∃ q, q = wr.heap.size := ⟨_, rfl⟩
            rw [← hq] at HQ ⊢
            clear hq hie
            generalize wr.alloc (.cells #[.bool hh, .int .i64 (tt : Int), .int .i64 ii] 78) = w4 at *
            have HQ0 := Go.Lib.hid (show w4.cell? ⟨q, 0, none⟩ = some (.bool hh) by rw [cell_of_row _ _ _ _ _ _ HQ.out]; rfl)
            have HQ1 := Go.Lib.hid (show w4.cell? ⟨q, 1, none⟩ = some (.int .i64 (tt : Int)) by rw [cell_of_row _ _ _ _ _ _ HQ.out]; rfl)
            have x0 := HIN4.out.b0
            have x1 : w4.cell? ⟨p, 1, none⟩ = some (.slice ya yn yk) := HIN4.out.b1
            have HPO := Go.Lib.hid (show KP.O w4 g (.slice ya yn yk) P from HIN4.out.bg.ways _ (List.mem_of_getElem? HIN4.out.il))
            have HPL := Go.Lib.hid (show P.length ≤ 8 by
              obtain ⟨hri, hre⟩ := re_at HIN4.out.il
              obtain ⟨c0, -, -, hnd, hin⟩ := HIN4.out.ok.way _ (List.getElem_mem hri)
              rw [hre] at hnd hin
              have h8 := nodup_le8 (List.nodup_append.1 hnd).1 (fun z hz => by
                obtain ⟨pp, hpp, rfl⟩ := List.mem_map.1 hz
                exact HIN4.out.ok.lt' (hin pp hpp))
              rwa [List.length_map] at h8)
            have CC := Go.Lib.hid (fun W (hW : Below w4.heap.size w4 W) => cclone_c W g (.slice ya yn yk) P (HPO.out.below hW) (by have := HPL.out; omega))
            clear HQ
            refine wp_region_head 8 (by decide) (by kernel_rfl) (VWb p c s w4.heap.size ya yn yk P) (VWb_below p c s w4.heap.size ya yn yk P) (by decide +kernel) (by rfl) [45, 46, 47, 48, 49, 50, 51, 52] (by rfl) ?_ ?_
            · intro i o hin ho a w6 hb6 hlen hg
              have x0 := keepC x0 hb6
              have x1 := keepC x1 hb6
              match i, hin, ho with
              | 0, hin, ho =>
                obtain rfl := Option.some.inj ho
                have h10 := given_old hg 10 (by decide +kernel)
                clear hg
                exact st_yield ho (wanted_none rfl) (.pointer (some ⟨p, 1, none⟩)) w6 (by simp [execOp, Act.eval, h10, go_sem]) ⟨_, rfl, Below.refl _ _, by rintro t' ⟨⟩; rfl⟩
              | 1, hin, ho =>
                obtain rfl := Option.some.inj ho
                obtain ⟨_, h45, rfl⟩ := given_fed hg 45 (by decide +kernel)
                clear hg
                exact st_yield ho (wanted_none rfl) (.slice ya yn yk) w6 (by simp [execOp, Act.eval, h45, go_sem, x1]) ⟨_, rfl, Below.refl _ _, by rintro t' ⟨⟩; rfl⟩
              | 2, hin, ho =>
                obtain rfl := Option.some.inj ho
                obtain ⟨_, h46, rfl⟩ := given_fed hg 46 (by decide +kernel)
                clear hg
                exact st_enter (w1 := w6) ho (wanted_none rfl) 64 #[.slice ya yn yk] (by simp [execOp, Act.eval, h46, resolve, go_sem]) ((CC.out w6 hb6).mono (by rintro e w7 ⟨v', rfl, hown, hb7⟩; exact ⟨v', rfl, _, rfl, hb7, by rintro t' ⟨⟩; exact hown.mono hb6.size⟩))
              | 3, hin, ho =>
                obtain rfl := Option.some.inj ho
                have h10 := given_old hg 10 (by decide +kernel)
                clear hg
                exact st_yield ho (wanted_none rfl) (.pointer (some ⟨p, 0, none⟩)) w6 (by simp [execOp, Act.eval, h10, go_sem]) ⟨_, rfl, Below.refl _ _, by rintro t' ⟨⟩; rfl⟩
              | 4, hin, ho =>
                obtain rfl := Option.some.inj ho
                obtain ⟨_, h48, rfl⟩ := given_fed hg 48 (by decide +kernel)
                clear hg
                exact st_yield ho (wanted_none rfl) (.int .i64 (c : Int)) w6 (by simp [execOp, Act.eval, h48, go_sem, x0]) ⟨_, rfl, Below.refl _ _, by rintro t' ⟨⟩; rfl⟩
              | 5, hin, ho =>
                obtain rfl := Option.some.inj ho
                have h11 := given_old hg 11 (by decide +kernel)
                clear hg
                exact st_yield ho (wanted_none rfl) (.int .i64 (s : Int)) w6 (by simp [execOp, Act.eval, h11, go_sem]) ⟨_, rfl, Below.refl _ _, by rintro t' ⟨⟩; rfl⟩
              | 6, hin, ho =>
                obtain rfl := Option.some.inj ho
                obtain ⟨_, h49, rfl⟩ := given_fed hg 49 (by decide +kernel)
                obtain ⟨_, h50, rfl⟩ := given_fed hg 50 (by decide +kernel)
                clear hg
                exact st_yield ho (wanted_none rfl) (.agg #[.int .i64 (c : Int), .int .i64 (s : Int)]) w6 (by simp [execOp, Act.eval, h49, h50, go_sem]) ⟨_, rfl, Below.refl _ _, by rintro t' ⟨⟩; rfl⟩
              | 7, hin, ho =>
                obtain rfl := Option.some.inj ho
                obtain ⟨_, h51, rfl⟩ := given_fed hg 51 (by decide +kernel)
                clear hg
                exact st_yield ho (wanted_none rfl) (.slice (some ⟨w6.heap.size, 0, none⟩) 1 1) (w6.alloc (.cells #[.int .i64 (c : Int), .int .i64 (s : Int)] 96)) (by simp [execOp, Act.eval, h51, go_sem]) ⟨_, rfl, (Below.refl _ _).alloc (Nat.le_refl _) _, by rintro t' ⟨⟩; exact KP.one' w6 c s⟩
              | n + 8, hin, ho => omega
            · intro f w6 hb6 hv
              have h47 := hv 47 (by decide)
              have h52 := hv 52 (by decide)
              simp only [VWb] at h47 h52
              have HO6 := Go.Lib.hid h47
              have HR6 := Go.Lib.hid h52
              have HB6 := Go.Lib.hid hb6
              clear hv hb6 h47 h52 x0 x1 CC
              unfold putAll
              simp only [List.foldl, List.drop]
              go_simp
              go_upto_region 12 with (first
                | ((with_reducible show wpList _ _ _ (⟨some 53, _, _, _, _, _⟩ :: _) _ _); go_loud (refine KP_ok.append rfl (.tmp 47) (.tmp 52) rfl w4.heap.size (f 47) (f 52) P [(c, s)] rfl rfl HO6.out HR6.out (by have := HPL.out; simp; omega) HB6.out.size ?_); intro v7 w7 hown7 hg7; have HB7 := Go.Lib.hid (HB6.out.grown hg7 HB6.out.size HO6.out.row); have HO7 := Go.Lib.hid hown7; clear hown7 hg7)
                | fail)
              have y0 := keepC HQ0.out HB7.out
              have y1 := keepC HQ1.out HB7.out
              have HIN7 := Go.Lib.hid (HIN4.out.below HB7.out)
              have HBW := Go.Lib.hid (HB4.out.trans (HB7.out.mono HGW4.out))
              have HP7 := Go.Lib.hid (HO7.out.mono HGW4.out)
              clear HIN4 HB4 HQ0 HQ1 HPO HO6 HR6 HB6
              obtain ⟨a7, k7, rfl, hm7⟩ := HP7.out.r.form
              rw [show (P ++ [(c, s)]).length = P.length + 1 by simp] at HP7 hm7 ⊢
              cases hh with
              | false =>
                have HRES := Go.Lib.hid (show ∃ c0 P0 e0 s0, (c0 = a ∨ c0 = b) ∧ P ++ [(c, s)] = P0 ++ [(e0, s0)] ∧ e0 < 8 ∧ s0 < 4 ∧ T (4 * e0 + s0) = none ∧ Chain T c0 P0 e0 ∧ (∀ p ∈ P0, p.1 < 8) ∧ (P0.map Prod.fst ++ [e0]).Nodup from by
                  have hTn : T (4 * c + s) = none := by
                    rcases HTQ.out with ⟨-, h⟩ | ⟨h, -⟩
                    · exact h
                    · cases h
                  obtain ⟨hri, hre⟩ := re_at HIN7.out.il
                  obtain ⟨c0, h0, hch, hnd, hin⟩ := HIN7.out.ok.way _ (List.getElem_mem hri)
                  rw [hre] at hch hnd hin
                  exact ⟨c0, P, c, s, h0, rfl, hc8, hs4, hTn, hch, fun pp hpp => HIN7.out.ok.lt' (hin pp hpp), hnd⟩)
                have HW := Go.Lib.hid (show Below w.heap.size w w7 by rw [← HG0.out]; exact HBW.out)
                have HPW := Go.Lib.hid (show KP.O w7 w.heap.size (.slice a7 (P.length + 1) k7) (P ++ [(c, s)]) by rw [← HG0.out]; exact HP7.out)
                clear hs4 hs hi hil hum hm7
                go_wp2_with fail
                go_ret
                exact ⟨_, rfl, HW.out, ⟨_, HPW.out, .inr HRES.out⟩⟩
              | true =>
                obtain ⟨x, hTx, hxt, hx8⟩ : ∃ x : Nat × Int, T (4 * c + s) = some x ∧ x.1 = tt ∧ x.1 < 32768 := by
                  rcases HTQ.out with ⟨h, -⟩ | ⟨-, h⟩
                  · cases h
                  · exact h
                have htl : tt < 32768 := by rw [← hxt]; exact hx8
                have OA := Go.Lib.hid fun W => hother_c (c : Int) (tt : Int) W (by omega) (by omega) (by omega) (by omega)
                rw [otherI_nat hc8 htl] at OA
                have ho8 : othN c tt < 8 := oth_lt tt hc8
                have z0 := HIN7.out.b0
                have hse := HIN7.out.bg.seen (othN c tt) ho8
                have h8 := fun W => idx8 g (othN c tt) ho8 W
                have HSTEP := Go.Lib.hid (fun (hin : othN c tt ∈ bkL L) => HIN7.out.step hTx (by rw [hxt]; exact hin))
                have HMORE := Go.Lib.hid (fun (hnew : othN c tt ∉ bkL L) (W1 W2 : World) (v' : Value) (y' : SvT) h1 h2 h3 h4 h5 => HIN7.out.more (w1 := W1) (w2 := W2) (v' := v') (y' := y') hs4 hTx (by rw [hxt]; exact hnew) (by rw [hxt]; exact h1) (by rw [hxt]; exact h2) h3 h4 h5)
                rw [hxt] at HMORE
                have hfz := HIN7.out.bg.frozen (othN c tt)
                have HMK := Go.Lib.hid (HIN7.out.mark ho8)
                have HUL := Go.Lib.hid (show L.length ≤ 8 by have := HIN7.out.ok.len; rwa [re_len] at this)
                clear hTx hxt hx8 HTQ
                generalize othN c tt = o8 at *
                by_cases hin : o8 ∈ bkL L
                · rw [decide_eq_true hin] at hse
                  have HN := Go.Lib.hid (HSTEP.out hin)
                  clear HSTEP HMORE hin HMK
                  go_wp2_with fail
                  refine (OA.out _).mono ?_
                  rintro e w8 ⟨rfl, rfl⟩
                  go_wp2_with fail
                  go_roundw
                  case rel => exact ⟨s + 1, _, L, rfl, by omega, by go_num, HN, HBW⟩
                  case measure => simp only [intOf]; omega
                · rw [decide_eq_false hin] at hse
                  have HN := Go.Lib.hid (HMORE.out hin)
                  clear HSTEP HMORE hin
                  go_wp2_with fail
                  refine (OA.out _).mono ?_
                  rintro e w8 ⟨rfl, rfl⟩
                  go_upto_region 17 with (fail)
                  have HFX := Go.Lib.hid (show Below g w (w7.setCell ⟨g, o8, none⟩ (.bool true)) from ⟨HBW.out.os, HBW.out.tape, HBW.out.output, by simpa [World.setCell] using HBW.out.size, fun k hk => (Below.heap_setCell _ _ _ _ (by simp only []; omega)).trans (HBW.out.block k hk)⟩)
                  have HM1 := Go.Lib.hid HMK.out.1
                  clear z0 hse h8 hfz y0 y1 HMK
                  generalize w7.setCell ⟨g, o8, none⟩ (.bool true) = w9 at *
                  have hb2 := (Below.refl w9.heap.size w9).alloc (Nat.le_refl _) (.cells #[.int .i64 (o8 : Int), .slice a7 (P.length + 1) k7] 117)
                  have HGW9 := Go.Lib.hid (show g ≤ w9.heap.size by rw [HG0.out]; exact HFX.out.size)
                  have HBX := Go.Lib.hid hb2
                  have HFY := Go.Lib.hid (HFX.out.trans (hb2.mono HGW9.out))
                  have HROW := Go.Lib.hid (HM1.out.row.below hb2)
                  have HONE := Go.Lib.hid (KR.one' w9 o8 a7 (P.length + 1) k7)
                  have HGY := Go.Lib.hid (Nat.le_trans HGW9.out hb2.size)
                  clear hb2 HM1
                  go_wp2_with (first
                    | ((with_reducible show wpList _ _ _ (⟨some 74, _, _, _, _, _⟩ :: _) _ _); go_loud (refine KR_ok.appendW rfl (.tmp 69) (.tmp 73) rfl g u (.slice (some ⟨w9.heap.size, 0, none⟩) 1 1) (L.map fun x => (x.1, x.2.1)) [(o8, a7, P.length + 1, k7)] rfl rfl HROW.out HONE.out (by simp) (by have := HUL.out; rw [List.length_map, List.length_singleton]; omega) HGY.out ?_); intro v10 w10 hown10 hg10 hwh10; have HFZ := Go.Lib.hid (HFY.out.grown hg10 (by rw [HG0.out]; exact HFY.out.size) HROW.out.row); have HN2 := Go.Lib.hid (HN.out _ w10 v10 (a7, P.length + 1, k7) HBX.out hown10 hg10 hwh10 HP7.out); clear hown10 hg10 hwh10)
                    | fail)
                  go_roundw
                  case rel => exact ⟨s + 1, _, _, rfl, by omega, by go_num, HN2, HFZ⟩
                  case measure => simp only [intOf]; omega
          · obtain rfl : s = 4 := by omega
            have HBE := Go.Lib.hid HIN.out.bg
            have HLE := Go.Lib.hid (show LineOk T a b (reL L) ∧ DoneT T (reL L) (i + 1) 0 from ⟨HIN.out.ok, HIN.out.done.next⟩)
            have HLI := Go.Lib.hid (show i + 1 ≤ L.length from (List.getElem?_eq_some_iff.1 HIN.out.il).1)
            have HLM := Go.Lib.hid (show L.length ≤ 8 by have := HIN.out.ok.len; rwa [re_len] at this)
            have hi8 : i ≤ 7 := by have := HLI.out; have := HLM.out; omega
            clear hir HIN hs4
            go_wp2_with fail
            go_roundw
            case rel => exact ⟨i + 1, _, L, rfl, HLI.out, by go_num, HBE, HLE, HB⟩
            case measure => simp only [intOf]; omega
    · obtain rfl : i = L.length := by omega
      have HW := Go.Lib.hid (show Below w.heap.size w wr by rw [← HG0.out]; exact HB.out)
      clear hil hum hlen
      go_wp2_with fail
      go_ret
      exact ⟨_, rfl, HW.out, [], Lay.O.nil _ _, .inl ⟨rfl, reL L, HLO.out.1, by rw [re_len]; exact HLO.out.2⟩⟩

end Go.Proofs.YtggokffdgjedgaaGreat

namespace Go.Proofs.YtggokffdgjedgaaGreat
open Go.RowKit

/-- Does operation i wait for operation j, by whatever way? -/
def aheadB (ops : Array Oper) (i j : Nat) : Bool := (reach ops ops.size (edges ops i)).contains j

section
variable {P : Program} {ops : Array Oper} {Q : Exit → Act → World → Prop}

structure HeldI (ops : Array Oper) (V : Nat → World → Value → Prop) (I : (Nat → Bool) → World → Prop) (a0 : Act) (listed : Array Bool) (a : Act) (w : World) : Prop where
  size : listed.size = ops.size
  inv : I (fun j => listed.getD j false) w
  defers : a.defers = a0.defers
  len : a.tmps.size = a0.tmps.size
  old : ∀ t : Nat, (∀ (i : Nat) (o : Oper), ops[i]? = some o → o.dst = some t → listed.getD i false = false) → a.tmps[t]? = a0.tmps[t]?
  new : ∀ (i : Nat) (o : Oper) (t : Nat), ops[i]? = some o → o.dst = some t → listed.getD i false = true → ∃ v, a.tmps[t]? = some v ∧ V t w v
  shut : ∀ (i : Nat) (o : Oper), ops[i]? = some o → listed.getD i false = true → ∀ e ∈ o.after, Region.binds .any e = true → listed.getD e.on false = true

/-- Operation i has been carried out too. -/
def doneToo (done : Nat → Bool) (i : Nat) : Nat → Bool := fun j => if j = i then true else done j
theorem doneToo_other {done : Nat → Bool} {i j : Nat} (h : j ≠ i) : doneToo done i j = done j := by unfold doneToo; rw [if_neg h]
theorem doneToo_self (done : Nat → Bool) (i : Nat) : doneToo done i i = true := by unfold doneToo; rw [if_pos rfl]

/-- Slot t has been written. -/
def Wrote (ops : Array Oper) (done : Nat → Bool) (t : Nat) : Prop := ∃ (j : Nat) (p : Oper), ops[j]? = some p ∧ p.dst = some t ∧ done j = true
/-- Operation i alone writes slot t. -/
def soleB (ops : Array Oper) (i t : Nat) : Bool := (List.range ops.size).all fun j => match ops[j]? with | some p => p.dst != some t || j == i | none => true
theorem not_wrote {ops : Array Oper} {done : Nat → Bool} {i t : Nat} (hs : soleB ops i t = true) (hn : done i = false) : ¬ Wrote ops done t := by
  rintro ⟨j, p, hj, hd, hdone⟩
  unfold soleB at hs
  rw [List.all_eq_true] at hs
  have h1 := hs j (by rw [List.mem_range]; exact (Array.getElem?_eq_some_iff.1 hj).1)
  rw [hj] at h1
  simp only [hd, bne_self_eq_false, Bool.false_or, beq_iff_eq] at h1
  rw [h1, hn] at hdone
  cases hdone

theorem wp_region_inv2 {id : Nat} {a0 : Act} {w0 : World} (hm : P.follows .mixedOrders = true) (V : Nat → World → Value → Prop) (I : (Nat → Bool) → World → Prop)
    (htidy : tidyB ops = true) (hlow : lowB ops = true) (hdst : (ops.toList.all fun o => match o.dst with | some t => decide (t < a0.tmps.size) | none => true) = true)
    (l : List Nat) (hl : dsts ops = l) (h0 : I (fun _ => false) w0.drew)
    (hstep : ∀ (i : Nat) (o : Oper), ops[i]? = some o → ∀ (a : Act) (w : World) (done : Nat → Bool), I done w → done i = false → (∀ j, aheadB ops i j = true → done j = true) → a.tmps.size = a0.tmps.size → Given ops V a0 o a w →
      wpOp P ops Q i (fun a' w' => ∃ v, a' = a.put o.dst v ∧ I (doneToo done i) w' ∧ (∀ t u, Wrote ops done t → V t w u → V t w' u) ∧ ∀ t, o.dst = some t → V t w' v) a w)
    (hend : ∀ (f : Nat → Value) (w : World) (done : Nat → Bool), (∀ i, i < ops.size → done i = true) → I done w → (∀ t, t ∈ l → V t w (f t)) → Q .normal (putAll a0 f l) w) :
    (Code.region id ops true).wp P Q a0 w0 := by
  have hdd : ∀ (i : Nat) (o : Oper) (t : Nat), ops[i]? = some o → o.dst = some t → t < a0.tmps.size := by
    intro i o t ho hod
    rw [List.all_eq_true] at hdst
    have h1 := hdst o (by obtain ⟨h, rfl⟩ := Array.getElem?_eq_some_iff.1 ho; simp)
    rw [hod] at h1
    exact of_decide_eq_true h1
  have hmem : ∀ t, t ∈ l ↔ ∃ (i : Nat) (o : Oper), ops[i]? = some o ∧ o.dst = some t := by
    intro t
    rw [← hl, dsts, List.mem_filterMap]
    constructor
    · rintro ⟨o, ho, hot⟩
      obtain ⟨i, hi, rfl⟩ := List.mem_iff_getElem.1 ho
      have hi' : i < ops.size := by simpa using hi
      exact ⟨i, ops[i], by simp [hi'], by simpa using hot⟩
    · rintro ⟨i, o, ho, hot⟩
      obtain ⟨h, rfl⟩ := Array.getElem?_eq_some_iff.1 ho
      exact ⟨ops[i], by simp, hot⟩
  refine wp_region_any hm ?_
  have hfin : ∀ (listed : Array Bool) (a : Act) (w : World), HeldI ops V I a0 listed a w → Region.ready .any ops listed = [] → Q .normal a w := by
    intro listed a w h hr
    have hall := listed_all hlow h.size hr
    have hf : ∀ t, t ∈ l → ∃ v, a.tmps[t]? = some v ∧ V t w v := fun t ht => by
      obtain ⟨i, o, ho, hot⟩ := (hmem t).1 ht
      exact h.new i o t ho hot (hall i o ho)
    have ha : a = putAll a0 (fun t => a.tmps.getD t undef) l := by
      have hdef := h.defers
      have hlen := h.len
      have hold := h.old
      obtain ⟨tm, df⟩ := a
      obtain ⟨h1, h2⟩ := putAll_size (fun t => tm.getD t undef) l a0
      have h3 : tm = (putAll a0 (fun t => tm.getD t undef) l).tmps := by
        apply Array.ext_getElem?
        intro t
        rw [putAll_tmps]
        by_cases ht : t ∈ l
        · obtain ⟨v, hv, -⟩ := hf t ht
          simp only [] at hv
          have hts : t < a0.tmps.size := by rw [← hlen]; exact (Array.getElem?_eq_some_iff.1 hv).1
          rw [if_pos ⟨ht, hts⟩, Array.getD_eq_getD_getElem?, hv]
          rfl
        · rw [if_neg (fun h => ht h.1)]
          exact hold t fun i o ho hot => absurd ((hmem t).2 ⟨i, o, ho, hot⟩) ht
      have h4 : df = (putAll a0 (fun t => tm.getD t undef) l).defers := by rw [h2]; exact hdef
      calc (⟨tm, df⟩ : Act) = ⟨(putAll a0 (fun t => tm.getD t undef) l).tmps, (putAll a0 (fun t => tm.getD t undef) l).defers⟩ := by rw [← h3, ← h4]
        _ = _ := rfl
    rw [ha]
    refine hend _ w _ (fun i hi => hall i ops[i] (by simp [hi])) h.inv fun t ht => ?_
    obtain ⟨v, hv, hVv⟩ := hf t ht
    rw [Array.getD_eq_getD_getElem?, hv]
    exact hVv
  have key : ∀ (fuel : Nat) (listed : Array Bool) (a : Act) (w : World), HeldI ops V I a0 listed a w →
      (List.range ops.size).countP (fun j => !listed.getD j true) ≤ fuel → wpAny P .any ops Q fuel listed a w := by
    intro fuel
    induction fuel with
    | zero =>
      intro listed a w h hcount
      have hr : Region.ready .any ops listed = [] := by
        cases hrr : Region.ready .any ops listed with
        | nil => rfl
        | cons x xs =>
          have hx : x ∈ Region.ready .any ops listed := by rw [hrr]; simp
          obtain ⟨hun, o, ho, -⟩ := mem_ready.1 hx
          have : 0 < (List.range ops.size).countP (fun j => !listed.getD j true) := List.countP_pos_iff.2 ⟨x, by rw [List.mem_range]; exact (Array.getElem?_eq_some_iff.1 ho).1, by rw [hun]; rfl⟩
          omega
      exact ⟨hr, hfin _ _ _ h hr⟩
    | succ fuel ih =>
      intro listed a w h hcount
      refine ⟨fun hr => hfin _ _ _ h hr, fun i hi => ?_⟩
      obtain ⟨hun, o, ho, hall⟩ := mem_ready.1 hi
      have hil : i < listed.size := by
        rw [h.size]
        exact (Array.getElem?_eq_some_iff.1 ho).1
      have hunf := getD_false_of hil hun
      have hgiven : Given ops V a0 o a w := by
        intro t ht
        refine ⟨fun hf => ?_, fun hf => ?_⟩
        · unfold fedB at hf
          rw [Array.any_eq_true] at hf
          obtain ⟨k, hk, hke⟩ := hf
          simp only [Bool.and_eq_true] at hke
          obtain ⟨hb, hw⟩ := hke
          have hl := hall o.after[k] (Array.getElem_mem hk) hb
          cases hp : ops[(o.after[k]).on]? with
          | none => rw [hp] at hw; cases hw
          | some p =>
            rw [hp] at hw
            exact h.new _ p t hp (by simpa using hw) hl
        · refine h.old t fun j p hj hd => ?_
          have hti := htidy
          unfold tidyB at hti
          rw [List.all_eq_true] at hti
          have h1 := hti i (by rw [List.mem_range]; exact (Array.getElem?_eq_some_iff.1 ho).1)
          rw [ho] at h1
          simp only [List.all_eq_true] at h1
          have h2 := h1 t ht
          rw [hf, Bool.false_or] at h2
          unfold lateB at h2
          rw [List.all_eq_true] at h2
          have h3 := h2 j (by rw [List.mem_range]; exact (Array.getElem?_eq_some_iff.1 hj).1)
          rw [hj] at h3
          simp only [hd, bne_self_eq_false, Bool.false_or, Array.any_eq_true, Bool.and_eq_true] at h3
          obtain ⟨k, hk, hb, hon⟩ := h3
          cases hlj : listed.getD j false with
          | false => rfl
          | true =>
            have := h.shut j p hj hlj p.after[k] (Array.getElem_mem hk) hb
            rw [show (p.after[k]).on = i from by simpa using hon, hunf] at this
            cases this
      have hreach : ∀ j, aheadB ops i j = true → listed.getD j false = true := fun j hj => by
        unfold aheadB at hj
        rw [List.contains_iff_mem] at hj
        refine reach_listed h.shut ops.size (edges ops i) (fun x hx => ?_) j hj
        obtain ⟨e, he, hb, rfl⟩ := edges_mem ho hx
        exact hall e he hb
      refine wpOp_mono ?_ (hstep i o ho a w _ h.inv hunf hreach h.len hgiven)
      rintro a' w' ⟨v, rfl, hI, hst, hv⟩
      have hpd : (a.put o.dst v).defers = a.defers := by unfold Act.put; split <;> rfl
      have hps : (a.put o.dst v).tmps.size = a.tmps.size := by unfold Act.put; split <;> simp
      have hpo : ∀ t : Nat, o.dst ≠ some t → (a.put o.dst v).tmps[t]? = a.tmps[t]? := by
        intro t ht
        unfold Act.put
        split
        · rename_i d hd
          exact Array.getElem?_setIfInBounds_ne (fun e => ht (by rw [hd, e]))
        · rfl
      have hpn : ∀ t : Nat, o.dst = some t → (a.put o.dst v).tmps[t]? = some v := by
        intro t ht
        have hts : t < a.tmps.size := by rw [h.len]; exact hdd i o t ho ht
        unfold Act.put
        rw [ht]
        simp [hts]
      have hset : ∀ j, (listed.setIfInBounds i true).getD j false = if j = i then true else listed.getD j false := by
        intro j
        by_cases hji : j = i
        · subst hji; simp [hil]
        · simp [hji, Array.getElem?_setIfInBounds_ne (Ne.symm hji), Array.getD_eq_getD_getElem?]
      have hdone : (fun j => (listed.setIfInBounds i true).getD j false) = doneToo (fun j => listed.getD j false) i := by
        funext j
        rw [hset]
        rfl
      refine ih _ _ _ ⟨by simpa using h.size, by rw [hdone]; exact hI, ?_, ?_, ?_, ?_, ?_⟩ ?_
      · rw [hpd]; exact h.defers
      · rw [hps]; exact h.len
      · intro t ht
        have hdt : o.dst ≠ some t := by
          intro e
          have := ht i o ho e
          rw [hset, if_pos rfl] at this
          cases this
        rw [hpo t hdt]
        refine h.old t fun j p hj hdj => ?_
        have := ht j p hj hdj
        rw [hset] at this
        split at this
        · cases this
        · exact this
      · intro j p t hj hdj hlj
        by_cases hdt : o.dst = some t
        · exact ⟨v, hpn t hdt, hv t hdt⟩
        · rw [hpo t hdt]
          rw [hset] at hlj
          split at hlj
          · rename_i hji
            subst hji
            rw [ho] at hj
            cases hj
            exact absurd hdj hdt
          · obtain ⟨u, hu, hVu⟩ := h.new j p t hj hdj hlj
            exact ⟨u, hu, hst _ _ ⟨j, p, hj, hdj, hlj⟩ hVu⟩
      · intro j p hj hlj e he hbe
        rw [hset] at hlj ⊢
        split
        · rfl
        · split at hlj
          · rename_i hji
            subst hji
            rw [ho] at hj
            cases hj
            exact hall e he hbe
          · exact h.shut j p hj hlj e he hbe
      · have : (List.range ops.size).countP (fun j => !(listed.setIfInBounds i true).getD j true) < (List.range ops.size).countP (fun j => !listed.getD j true) := by
          refine countP_lt (i := i) (fun j hj hq => ?_) (by rw [List.mem_range, ← h.size]; exact hil) (by rw [hun]; rfl) (by simp [hil])
          by_cases hji : j = i
          · subst hji; rw [hun]; rfl
          · simp only [Array.getD_eq_getD_getElem?] at hq ⊢
            rwa [Array.getElem?_setIfInBounds_ne (Ne.symm hji)] at hq
        omega
  refine key ops.size _ _ _ ⟨by simp, ?_, rfl, rfl, fun _ _ => rfl, fun i o t hi _ hl => ?_, fun i o hi hl => ?_⟩ ?_
  · have : (fun j => (Array.replicate ops.size false).getD j false) = fun _ => false := by
      funext j
      rw [Array.getD_eq_getD_getElem?, Array.getElem?_replicate]
      split <;> rfl
    rw [this]
    exact h0
  · rw [Array.getD_eq_getD_getElem?, Array.getElem?_replicate] at hl
    split at hl <;> cases hl
  · rw [Array.getD_eq_getD_getElem?, Array.getElem?_replicate] at hl
    split at hl <;> cases hl
  · exact Nat.le_trans List.countP_le_length (by simp)

theorem wp_region_inv {id : Nat} {a0 : Act} {w0 : World} (hm : P.follows .mixedOrders = true) (V : Nat → World → Value → Prop) (I : (Nat → Bool) → World → Prop)
    (htidy : tidyB ops = true) (hlow : lowB ops = true) (hdst : (ops.toList.all fun o => match o.dst with | some t => decide (t < a0.tmps.size) | none => true) = true)
    (l : List Nat) (hl : dsts ops = l) (h0 : I (fun _ => false) w0.drew)
    (hstep : ∀ (i : Nat) (o : Oper), ops[i]? = some o → ∀ (a : Act) (w : World) (done : Nat → Bool), I done w → done i = false → (∀ j, aheadB ops i j = true → done j = true) → a.tmps.size = a0.tmps.size → Given ops V a0 o a w →
      wpOp P ops Q i (fun a' w' => ∃ v, a' = a.put o.dst v ∧ I (doneToo done i) w' ∧ (∀ t u, V t w u → V t w' u) ∧ ∀ t, o.dst = some t → V t w' v) a w)
    (hend : ∀ (f : Nat → Value) (w : World) (done : Nat → Bool), (∀ i, i < ops.size → done i = true) → I done w → (∀ t, t ∈ l → V t w (f t)) → Q .normal (putAll a0 f l) w) :
    (Code.region id ops true).wp P Q a0 w0 :=
  wp_region_inv2 hm V I htidy hlow hdst l hl h0 (fun i o ho a w done hI hn hr hlen hg => wpOp_mono (by rintro a' w' ⟨v, h1, h2, h3, h4⟩; exact ⟨v, h1, h2, fun t u _ => h3 t u, h4⟩) (hstep i o ho a w done hI hn hr hlen hg)) hend

/-- A store, or whatever else yields nothing. -/
theorem st_done {K : Act → World → Prop} {i : Nat} {o : Oper} {a : Act} {w : World} (ho : ops[i]? = some o) (hw : Region.wanted o (yielded ops a.tmps) = true) (w' : World)
    (hrun : (execOp a.eval o).run P w = .ok .skip w') (h : K (a.put o.dst undef) w') : wpOp P ops Q i K a w := by
  unfold wpOp
  rw [ho]
  simp only [hw, if_true]
  refine .inl ?_
  unfold Oper.wp
  rw [hrun]
  exact h

end

attribute [irreducible] aheadB

end Go.Proofs.YtggokffdgjedgaaGreat

namespace Go.Proofs.YtggokffdgjedgaaGreat
open Go.RowKit

section
variable {P : Program} {ops : Array Oper} {Q : Exit → Act → World → Prop}

structure HeldT (ops : Array Oper) (V : Nat → World → Value → Prop) (I : (Nat → Bool) → Act → World → Prop) (a0 : Act) (listed : Array Bool) (a : Act) (w : World) : Prop where
  size : listed.size = ops.size
  inv : I (fun j => listed.getD j false) a w
  defers : a.defers = a0.defers
  len : a.tmps.size = a0.tmps.size
  old : ∀ t : Nat, (∀ (i : Nat) (o : Oper), ops[i]? = some o → o.dst = some t → listed.getD i false = false) → a.tmps[t]? = a0.tmps[t]?
  new : ∀ (i : Nat) (o : Oper) (t : Nat), ops[i]? = some o → o.dst = some t → listed.getD i false = true → ∃ v, a.tmps[t]? = some v ∧ V t w v
  shut : ∀ (i : Nat) (o : Oper), ops[i]? = some o → listed.getD i false = true → ∀ e ∈ o.after, Region.binds .any e = true → listed.getD e.on false = true

theorem wp_region_inv3 {id : Nat} {a0 : Act} {w0 : World} (hm : P.follows .mixedOrders = true) (V : Nat → World → Value → Prop) (I : (Nat → Bool) → Act → World → Prop)
    (htidy : tidyB ops = true) (hlow : lowB ops = true) (hdst : (ops.toList.all fun o => match o.dst with | some t => decide (t < a0.tmps.size) | none => true) = true)
    (l : List Nat) (hl : dsts ops = l) (h0 : I (fun _ => false) a0 w0.drew)
    (hstep : ∀ (i : Nat) (o : Oper), ops[i]? = some o → ∀ (a : Act) (w : World) (done : Nat → Bool), I done a w → done i = false → (∀ j, aheadB ops i j = true → done j = true) → (∀ i' j, done i' = true → aheadB ops i' j = true → done j = true) → a.tmps.size = a0.tmps.size → Given ops V a0 o a w →
      wpOp P ops Q i (fun a' w' => ∃ v, a' = a.put o.dst v ∧ I (doneToo done i) a' w' ∧ (∀ t u, Wrote ops done t → V t w u → V t w' u) ∧ ∀ t, o.dst = some t → V t w' v) a w)
    (hend : ∀ (f : Nat → Value) (w : World) (done : Nat → Bool), (∀ i, i < ops.size → done i = true) → I done (putAll a0 f l) w → (∀ t, t ∈ l → V t w (f t)) → Q .normal (putAll a0 f l) w) :
    (Code.region id ops true).wp P Q a0 w0 := by
  have hdd : ∀ (i : Nat) (o : Oper) (t : Nat), ops[i]? = some o → o.dst = some t → t < a0.tmps.size := by
    intro i o t ho hod
    rw [List.all_eq_true] at hdst
    have h1 := hdst o (by obtain ⟨h, rfl⟩ := Array.getElem?_eq_some_iff.1 ho; simp)
    rw [hod] at h1
    exact of_decide_eq_true h1
  have hmem : ∀ t, t ∈ l ↔ ∃ (i : Nat) (o : Oper), ops[i]? = some o ∧ o.dst = some t := by
    intro t
    rw [← hl, dsts, List.mem_filterMap]
    constructor
    · rintro ⟨o, ho, hot⟩
      obtain ⟨i, hi, rfl⟩ := List.mem_iff_getElem.1 ho
      have hi' : i < ops.size := by simpa using hi
      exact ⟨i, ops[i], by simp [hi'], by simpa using hot⟩
    · rintro ⟨i, o, ho, hot⟩
      obtain ⟨h, rfl⟩ := Array.getElem?_eq_some_iff.1 ho
      exact ⟨ops[i], by simp, hot⟩
  refine wp_region_any hm ?_
  have hfin : ∀ (listed : Array Bool) (a : Act) (w : World), HeldT ops V I a0 listed a w → Region.ready .any ops listed = [] → Q .normal a w := by
    intro listed a w h hr
    have hall := listed_all hlow h.size hr
    have hf : ∀ t, t ∈ l → ∃ v, a.tmps[t]? = some v ∧ V t w v := fun t ht => by
      obtain ⟨i, o, ho, hot⟩ := (hmem t).1 ht
      exact h.new i o t ho hot (hall i o ho)
    have ha : a = putAll a0 (fun t => a.tmps.getD t undef) l := by
      have hdef := h.defers
      have hlen := h.len
      have hold := h.old
      obtain ⟨tm, df⟩ := a
      obtain ⟨h1, h2⟩ := putAll_size (fun t => tm.getD t undef) l a0
      have h3 : tm = (putAll a0 (fun t => tm.getD t undef) l).tmps := by
        apply Array.ext_getElem?
        intro t
        rw [putAll_tmps]
        by_cases ht : t ∈ l
        · obtain ⟨v, hv, -⟩ := hf t ht
          simp only [] at hv
          have hts : t < a0.tmps.size := by rw [← hlen]; exact (Array.getElem?_eq_some_iff.1 hv).1
          rw [if_pos ⟨ht, hts⟩, Array.getD_eq_getD_getElem?, hv]
          rfl
        · rw [if_neg (fun h => ht h.1)]
          exact hold t fun i o ho hot => absurd ((hmem t).2 ⟨i, o, ho, hot⟩) ht
      have h4 : df = (putAll a0 (fun t => tm.getD t undef) l).defers := by rw [h2]; exact hdef
      calc (⟨tm, df⟩ : Act) = ⟨(putAll a0 (fun t => tm.getD t undef) l).tmps, (putAll a0 (fun t => tm.getD t undef) l).defers⟩ := by rw [← h3, ← h4]
        _ = _ := rfl
    have hinv := h.inv
    rw [ha] at hinv ⊢
    refine hend _ w _ (fun i hi => hall i ops[i] (by simp [hi])) hinv fun t ht => ?_
    obtain ⟨v, hv, hVv⟩ := hf t ht
    rw [Array.getD_eq_getD_getElem?, hv]
    exact hVv
  have key : ∀ (fuel : Nat) (listed : Array Bool) (a : Act) (w : World), HeldT ops V I a0 listed a w →
      (List.range ops.size).countP (fun j => !listed.getD j true) ≤ fuel → wpAny P .any ops Q fuel listed a w := by
    intro fuel
    induction fuel with
    | zero =>
      intro listed a w h hcount
      have hr : Region.ready .any ops listed = [] := by
        cases hrr : Region.ready .any ops listed with
        | nil => rfl
        | cons x xs =>
          have hx : x ∈ Region.ready .any ops listed := by rw [hrr]; simp
          obtain ⟨hun, o, ho, -⟩ := mem_ready.1 hx
          have : 0 < (List.range ops.size).countP (fun j => !listed.getD j true) := List.countP_pos_iff.2 ⟨x, by rw [List.mem_range]; exact (Array.getElem?_eq_some_iff.1 ho).1, by rw [hun]; rfl⟩
          omega
      exact ⟨hr, hfin _ _ _ h hr⟩
    | succ fuel ih =>
      intro listed a w h hcount
      refine ⟨fun hr => hfin _ _ _ h hr, fun i hi => ?_⟩
      obtain ⟨hun, o, ho, hall⟩ := mem_ready.1 hi
      have hil : i < listed.size := by
        rw [h.size]
        exact (Array.getElem?_eq_some_iff.1 ho).1
      have hunf := getD_false_of hil hun
      have hgiven : Given ops V a0 o a w := by
        intro t ht
        refine ⟨fun hf => ?_, fun hf => ?_⟩
        · unfold fedB at hf
          rw [Array.any_eq_true] at hf
          obtain ⟨k, hk, hke⟩ := hf
          simp only [Bool.and_eq_true] at hke
          obtain ⟨hb, hw⟩ := hke
          have hl := hall o.after[k] (Array.getElem_mem hk) hb
          cases hp : ops[(o.after[k]).on]? with
          | none => rw [hp] at hw; cases hw
          | some p =>
            rw [hp] at hw
            exact h.new _ p t hp (by simpa using hw) hl
        · refine h.old t fun j p hj hd => ?_
          have hti := htidy
          unfold tidyB at hti
          rw [List.all_eq_true] at hti
          have h1 := hti i (by rw [List.mem_range]; exact (Array.getElem?_eq_some_iff.1 ho).1)
          rw [ho] at h1
          simp only [List.all_eq_true] at h1
          have h2 := h1 t ht
          rw [hf, Bool.false_or] at h2
          unfold lateB at h2
          rw [List.all_eq_true] at h2
          have h3 := h2 j (by rw [List.mem_range]; exact (Array.getElem?_eq_some_iff.1 hj).1)
          rw [hj] at h3
          simp only [hd, bne_self_eq_false, Bool.false_or, Array.any_eq_true, Bool.and_eq_true] at h3
          obtain ⟨k, hk, hb, hon⟩ := h3
          cases hlj : listed.getD j false with
          | false => rfl
          | true =>
            have := h.shut j p hj hlj p.after[k] (Array.getElem_mem hk) hb
            rw [show (p.after[k]).on = i from by simpa using hon, hunf] at this
            cases this
      have hreach : ∀ j, aheadB ops i j = true → listed.getD j false = true := fun j hj => by
        unfold aheadB at hj
        rw [List.contains_iff_mem] at hj
        refine reach_listed h.shut ops.size (edges ops i) (fun x hx => ?_) j hj
        obtain ⟨e, he, hb, rfl⟩ := edges_mem ho hx
        exact hall e he hb
      have hsh : ∀ i' j, listed.getD i' false = true → aheadB ops i' j = true → listed.getD j false = true := fun i' j hi' hj => by
        unfold aheadB at hj
        rw [List.contains_iff_mem] at hj
        have hlt : i' < ops.size := by
          rw [← h.size]
          rcases Nat.lt_or_ge i' listed.size with h1 | h1
          · exact h1
          · rw [Array.getD_eq_getD_getElem?, Array.getElem?_eq_none h1] at hi'
            cases hi'
        have ho' : ops[i']? = some ops[i'] := by simp [hlt]
        refine reach_listed h.shut ops.size (edges ops i') (fun x hx => ?_) j hj
        obtain ⟨e, he, hb, rfl⟩ := edges_mem ho' hx
        exact h.shut i' ops[i'] ho' hi' e he hb
      refine wpOp_mono ?_ (hstep i o ho a w _ h.inv hunf hreach hsh h.len hgiven)
      rintro a' w' ⟨v, rfl, hI, hst, hv⟩
      have hpd : (a.put o.dst v).defers = a.defers := by unfold Act.put; split <;> rfl
      have hps : (a.put o.dst v).tmps.size = a.tmps.size := by unfold Act.put; split <;> simp
      have hpo : ∀ t : Nat, o.dst ≠ some t → (a.put o.dst v).tmps[t]? = a.tmps[t]? := by
        intro t ht
        unfold Act.put
        split
        · rename_i d hd
          exact Array.getElem?_setIfInBounds_ne (fun e => ht (by rw [hd, e]))
        · rfl
      have hpn : ∀ t : Nat, o.dst = some t → (a.put o.dst v).tmps[t]? = some v := by
        intro t ht
        have hts : t < a.tmps.size := by rw [h.len]; exact hdd i o t ho ht
        unfold Act.put
        rw [ht]
        simp [hts]
      have hset : ∀ j, (listed.setIfInBounds i true).getD j false = if j = i then true else listed.getD j false := by
        intro j
        by_cases hji : j = i
        · subst hji; simp [hil]
        · simp [hji, Array.getElem?_setIfInBounds_ne (Ne.symm hji), Array.getD_eq_getD_getElem?]
      have hdone : (fun j => (listed.setIfInBounds i true).getD j false) = doneToo (fun j => listed.getD j false) i := by
        funext j
        rw [hset]
        rfl
      refine ih _ _ _ ⟨by simpa using h.size, by rw [hdone]; exact hI, ?_, ?_, ?_, ?_, ?_⟩ ?_
      · rw [hpd]; exact h.defers
      · rw [hps]; exact h.len
      · intro t ht
        have hdt : o.dst ≠ some t := by
          intro e
          have := ht i o ho e
          rw [hset, if_pos rfl] at this
          cases this
        rw [hpo t hdt]
        refine h.old t fun j p hj hdj => ?_
        have := ht j p hj hdj
        rw [hset] at this
        split at this
        · cases this
        · exact this
      · intro j p t hj hdj hlj
        by_cases hdt : o.dst = some t
        · exact ⟨v, hpn t hdt, hv t hdt⟩
        · rw [hpo t hdt]
          rw [hset] at hlj
          split at hlj
          · rename_i hji
            subst hji
            rw [ho] at hj
            cases hj
            exact absurd hdj hdt
          · obtain ⟨u, hu, hVu⟩ := h.new j p t hj hdj hlj
            exact ⟨u, hu, hst _ _ ⟨j, p, hj, hdj, hlj⟩ hVu⟩
      · intro j p hj hlj e he hbe
        rw [hset] at hlj ⊢
        split
        · rfl
        · split at hlj
          · rename_i hji
            subst hji
            rw [ho] at hj
            cases hj
            exact hall e he hbe
          · exact h.shut j p hj hlj e he hbe
      · have : (List.range ops.size).countP (fun j => !(listed.setIfInBounds i true).getD j true) < (List.range ops.size).countP (fun j => !listed.getD j true) := by
          refine countP_lt (i := i) (fun j hj hq => ?_) (by rw [List.mem_range, ← h.size]; exact hil) (by rw [hun]; rfl) (by simp [hil])
          by_cases hji : j = i
          · subst hji; rw [hun]; rfl
          · simp only [Array.getD_eq_getD_getElem?] at hq ⊢
            rwa [Array.getElem?_setIfInBounds_ne (Ne.symm hji)] at hq
        omega
  refine key ops.size _ _ _ ⟨by simp, ?_, rfl, rfl, fun _ _ => rfl, fun i o t hi _ hl => ?_, fun i o hi hl => ?_⟩ ?_
  · have : (fun j => (Array.replicate ops.size false).getD j false) = fun _ => false := by
      funext j
      rw [Array.getD_eq_getD_getElem?, Array.getElem?_replicate]
      split <;> rfl
    rw [this]
    exact h0
  · rw [Array.getD_eq_getD_getElem?, Array.getElem?_replicate] at hl
    split at hl <;> cases hl
  · rw [Array.getD_eq_getD_getElem?, Array.getElem?_replicate] at hl
    split at hl <;> cases hl
  · exact Nat.le_trans List.countP_le_length (by simp)

end

end Go.Proofs.YtggokffdgjedgaaGreat

namespace Go.Proofs.YtggokffdgjedgaaGreat
open Go.RowKit

/-- Within Insert's loop: the first k slots of the way are done; what is held lies at block q. -/
structure InS (T : SlT) (x0 : Option (Nat × Int)) (d q : Nat) (W : List (Nat × Nat)) (k : Nat) (w2 wr : World) : Prop where
  ck : CK wr d (shiftT T x0 (W.take k)).1
  b0 : wr.cell? ⟨q, 0, none⟩ = some (.bool (hasO (shiftT T x0 (W.take k)).2))
  b1 : wr.cell? ⟨q, 1, none⟩ = some (.int .i64 (tagO (shiftT T x0 (W.take k)).2 : Int))
  b2 : wr.cell? ⟨q, 2, none⟩ = some (.int .i64 (idO (shiftT T x0 (W.take k)).2))
  bf : ∀ o, wr.frozen? ⟨q, o, none⟩ = false
  et : ∀ y, (shiftT T x0 (W.take k)).2 = some y → y.1 < 32768
  off : Off1 d w2 wr
  qd : q ≠ d
  qn : w2.heap.size ≤ q
section
variable {T : SlT} {x0 : Option (Nat × Int)} {d q : Nat} {W : List (Nat × Nat)} {k : Nat} {w2 wr wr' : World}
theorem frozen_block {w w' : World} {g : Nat} (h : w'.heap[g]? = w.heap[g]?) (o : Nat) : w'.frozen? ⟨g, o, none⟩ = w.frozen? ⟨g, o, none⟩ := by
  unfold World.frozen?
  simp only []
  rw [h]
theorem InS.qlt (h : InS T x0 d q W k w2 wr) : q < wr.heap.size := World.block_lt_of_cell? wr _ h.b0
theorem InS.below (h : InS T x0 d q W k w2 wr) (hb : Below wr.heap.size wr wr') : InS T x0 d q W k w2 wr' :=
  ⟨h.ck.below hb, (hb.cell (World.block_lt_of_cell? wr _ h.b0)).trans h.b0, (hb.cell (World.block_lt_of_cell? wr _ h.b1)).trans h.b1, (hb.cell (World.block_lt_of_cell? wr _ h.b2)).trans h.b2, fun o => (frozen_block (hb.block q h.qlt) o).trans (h.bf o), h.et, h.off.above hb, h.qd, h.qn⟩
/-- One slot further. -/
theorem InS.turn (h : InS T x0 d q W k w2 wr) (hk : k < W.length) (h1 : W[k].1 < 8) (h2 : W[k].2 < 4) :
    InS T x0 d q W (k + 1) w2 ((wr.setCells q 0 (encO ((shiftT T x0 (W.take k)).1 (4 * W[k].1 + W[k].2)))).setCells d (3 * (4 * W[k].1 + W[k].2)) (encO (shiftT T x0 (W.take k)).2)) := by
  have et : shiftT T x0 (W.take (k + 1)) = (layT (shiftT T x0 (W.take k)).1 (4 * W[k].1 + W[k].2) (shiftT T x0 (W.take k)).2, (shiftT T x0 (W.take k)).1 (4 * W[k].1 + W[k].2)) := by
    rw [List.take_succ_eq_append_getElem hk, shift_snoc]
  have hq : 4 * W[k].1 + W[k].2 < 32 := by omega
  generalize 4 * W[k].1 + W[k].2 = z at *
  have hck := h.ck
  have hb0 := h.b0
  have hb1 := h.b1
  have hb2 := h.b2
  have het := h.et
  generalize hS : shiftT T x0 (W.take k) = S at *
  obtain ⟨U, e⟩ := S
  simp only [] at hck hb0 hb1 hb2 het et ⊢
  have hsame : ∀ (vs : List Value) (w : World) (o k b : Nat), k ≠ b → (w.setCells b o vs).heap[k]? = w.heap[k]? := by
    intro vs
    induction vs with
    | nil => intro w o k b _; rfl
    | cons v r ih => intro w o k b hne; rw [World.setCells, ih _ _ _ _ hne]; exact Below.heap_setCell _ _ _ _ hne
  have hsz : ∀ (vs : List Value) (w : World) (o b : Nat), (w.setCells b o vs).heap.size = w.heap.size := by
    intro vs
    induction vs with
    | nil => intro w o b; rfl
    | cons v r ih => intro w o b; rw [World.setCells, ih]; simp [World.setCell]
  have hos : ∀ (vs : List Value) (w : World) (o b : Nat), (w.setCells b o vs).os = w.os ∧ (w.setCells b o vs).tape = w.tape ∧ (w.setCells b o vs).output = w.output := by
    intro vs
    induction vs with
    | nil => intro w o b; exact ⟨rfl, rfl, rfl⟩
    | cons v r ih => intro w o b; rw [World.setCells]; exact ih _ _ _
  have c1 : CK (wr.setCells q 0 (encO (U z))) d U := hck.same (hsame _ _ _ _ _ h.qd.symm)
  have c2 := c1.setSlot hq e het
  have hin : ∀ j (hj : j < 3), (wr.setCells q 0 (encO (U z))).cell? ⟨q, j, none⟩ = (encO (U z))[j]? := fun j hj => by
    have := World.cell?_setCells_in q (encO (U z)) 0 wr (fun i hi => by
      have hi3 : i < 3 := hi
      rcases (by omega : i = 0 ∨ i = 1 ∨ i = 2) with rfl | rfl | rfl
      · rw [Nat.zero_add, hb0]; rfl
      · rw [Nat.zero_add, hb1]; rfl
      · rw [Nat.zero_add, hb2]; rfl) j hj
    rw [Nat.zero_add] at this
    rw [this]
    exact (List.getElem?_eq_getElem hj).symm
  have hin2 : ∀ j (hj : j < 3), ((wr.setCells q 0 (encO (U z))).setCells d (3 * z) (encO e)).cell? ⟨q, j, none⟩ = (encO (U z))[j]? := fun j hj =>
    (World.cell?_setCells_out d (encO e) (3 * z) _ ⟨q, j, none⟩ (fun hb _ => absurd hb h.qd)).trans (hin j hj)
  refine ⟨by rw [et]; exact c2, by rw [et]; exact hin2 0 (by omega), by rw [et]; exact hin2 1 (by omega), by rw [et]; exact hin2 2 (by omega), fun o => by rw [World.frozen?_setCells, World.frozen?_setCells]; exact h.bf o, ?_, ?_, h.qd, h.qn⟩
  · rw [et]
    intro y hy
    exact (hck.tok z y hy).2
  · obtain ⟨a1, a2, a3⟩ := hos (encO (U z)) wr 0 q
    obtain ⟨e1, e2, e3⟩ := hos (encO e) (wr.setCells q 0 (encO (U z))) (3 * z) d
    exact ⟨(e1.trans a1).trans h.off.os, (e2.trans a2).trans h.off.tape, (e3.trans a3).trans h.off.output, by rw [hsz, hsz]; exact h.off.size, fun j hj hne => by
      rw [hsame _ _ _ _ _ hne, hsame _ _ _ _ _ (by have := h.qn; omega)]
      exact h.off.block j hj hne⟩
end

theorem encO_one (x : Option (Nat × Int)) : ∀ v ∈ encO x, v.oneCell' = true := by
  intro v hv
  simp only [encO, List.mem_cons, List.not_mem_nil, or_false] at hv
  rcases hv with rfl | rfl | rfl <;> rfl
/-- Within 'e, *at = *at, e'. -/
def I9 (wb : World) (q d z : Nat) (U E : List Value) (done : Nat → Bool) (_a : Act) (w : World) : Prop :=
  (done 5 = false → w = wb) ∧ (done 5 = true → done 7 = false → w = wb.setCells q 0 U) ∧ (done 7 = true → w = (wb.setCells q 0 U).setCells d z E)
theorem I9.start (wb : World) (q d z : Nat) (U E : List Value) (a : Act) : I9 wb q d z U E (fun _ => false) a wb := ⟨fun _ => rfl, fun h => absurd h (by simp), fun h => absurd h (by simp)⟩
theorem I9.one {wb : World} {q d z : Nat} {U E : List Value} {done : Nat → Bool} (a' : Act) (h7 : done 7 = false) : I9 wb q d z U E (doneToo done 5) a' (wb.setCells q 0 U) :=
  ⟨fun h => absurd ((doneToo_self done 5).symm.trans h) (by simp), fun _ _ => rfl, fun h => absurd ((doneToo_other (done := done) (i := 5) (j := 7) (by decide)).symm.trans h |>.symm.trans h7) (by simp)⟩
theorem I9.two {wb : World} {q d z : Nat} {U E : List Value} {done : Nat → Bool} (a' : Act) (h5 : done 5 = true) : I9 wb q d z U E (doneToo done 7) a' ((wb.setCells q 0 U).setCells d z E) :=
  ⟨fun h => absurd ((doneToo_other (done := done) (i := 7) (j := 5) (by decide)).symm.trans h |>.symm.trans h5) (by simp), fun _ h => absurd ((doneToo_self done 7).symm.trans h) (by simp), fun _ => rfl⟩
theorem I9.keep {wb : World} {q d z : Nat} {U E : List Value} {done : Nat → Bool} {a a' : Act} {w : World} (h : I9 wb q d z U E done a w) {i : Nat} (h5 : 5 ≠ i) (h7 : 7 ≠ i) : I9 wb q d z U E (doneToo done i) a' w := by
  unfold I9
  rw [doneToo_other h5, doneToo_other h7]
  exact h
def VIn (d z : Nat) (U E : List Value) : Nat → World → Value → Prop
  | 44, _, v => v = .pointer (some ⟨d, z, none⟩)
  | 45, _, v => v = .pointer (some ⟨d, z, none⟩)
  | 46, _, v => v = .pointer (some ⟨d, z, none⟩)
  | 47, _, v => v = .agg U.toArray
  | 48, _, v => v = .agg E.toArray
  | 49, _, v => v = .pointer (some ⟨d, z, none⟩)
  | _, _, _ => True

theorem VIn_any (d z : Nat) (U E : List Value) : ∀ (i : Nat) (w w' : World) (v : Value), VIn d z U E i w v → VIn d z U E i w' v := by
  intro i w w' v h
  unfold VIn at h ⊢
  split at h <;> first | exact h | trivial

set_option maxHeartbeats 4000000 in
set_option maxRecDepth 100000 in
theorem cinsert_w {w : World} {d : Nat} {T : SlT} (h : CK w d T) {x : Nat} {i : Int} (hx : x < 18446744073709551616) (hi : idOk i = true) :
    Calls Tryz.prog 32 #[.pointer (some ⟨d, 0, none⟩), .int .u64 (x : Int), .int .i64 i] w fun e w' => ∃ W, WayOk T (firstN x) (othN (firstN x) (tagN x)) W ∧ ((W = [] ∧ e = .returned (.bool false) ∧ Below w.heap.size w w') ∨ (W ≠ [] ∧ e = .returned (.bool true) ∧ CK w' d (shiftT T (some (tagN x, i)) W).1 ∧ Off1 d w w')) := by
  have HD := Go.Lib.hid fun W (hW : Below w.heap.size w W) => h.below hW
  have HDL := Go.Lib.hid h.lt
  have MC := Go.Lib.hid (fun W => cmay_c i W)
  rw [hi] at MC
  have PA := Go.Lib.hid fun W => cpair_c x W hx
  have TA := Go.Lib.hid fun W => htag_c x W hx
  have WC := Go.Lib.hid (cway_c h (a := firstN x) (b := othN (firstN x) (tagN x)) (first_lt x) (oth_lt _ (first_lt x)) (fun e => oth_ne (tagN x) (first_lt x) e.symm))
  have HTL := Go.Lib.hid (tag_lt x)
  clear h hx hi
  generalize othN (firstN x) (tagN x) = bo at *
  generalize firstN x = bf at *
  generalize tagN x = tx at *
  go_enter Tryz.func32, Tryz.ntmps32
  go_wp2_with fail
  refine (MC.out _).mono ?_
  rintro e w1 ⟨rfl, rfl⟩
  go_wp2_with fail
  refine (PA.out _).mono ?_
  rintro e w1 ⟨rfl, rfl⟩
  go_wp2_with fail
  refine WC.out.mono ?_
  rintro e w2 ⟨v, rfl, hb2, W, hO, hW⟩
  have HB2 := Go.Lib.hid hb2
  have HO := Go.Lib.hid hO
  have HW := Go.Lib.hid hW
  have HWL := Go.Lib.hid (fun (p : Nat × Nat) (hp : p ∈ W) => show p.1 < 8 ∧ p.2 < 4 from by
    rcases hW with ⟨rfl, -⟩ | ⟨c, P, e, s, -, rfl, h1, h2, -, h4, h5, -⟩
    · cases hp
    · rcases List.mem_append.1 hp with hp | hp
      · refine ⟨h5 p hp, ?_⟩
        exact chain_slot h4 p hp
      · rw [List.mem_singleton.1 hp]; exact ⟨h1, h2⟩)
  obtain ⟨a, cap, rfl, hlm⟩ := hO.r.form
  clear hb2 hO hW WC PA MC
  go_wp2_with fail
  refine (TA.out _).mono ?_
  rintro e w3 ⟨rfl, rfl⟩
  go_upto_region 5 with (fail)
  have hb3 := (Below.refl w2.heap.size w2).alloc (Nat.le_refl _) (.cells #[.bool true, .int .i64 (tx : Int), .int .i64 i] 78)
  have HIN0 := Go.Lib.hid (show InS T (some (tx, i)) d w2.heap.size W 0 w2 (w2.alloc (.cells #[.bool true, .int .i64 (tx : Int), .int .i64 i] 78)) from by
    have hg := heap_alloc_new w2 (.cells #[.bool true, .int .i64 (tx : Int), .int .i64 i] 78)
    have hc := fun o => cell_of_row _ _ o _ _ _ hg
    refine ⟨(HD.out w2 HB2.out).below hb3, by rw [hc]; rfl, by rw [hc]; rfl, by rw [hc]; rfl, fun o => frozen_of_row _ _ _ _ _ hg, fun y hy => by cases hy; exact HTL.out, Off1.of_below hb3, fun e => ?_, Nat.le_refl _⟩
    have := HDL.out
    have := HB2.out.size
    omega)
  have HOK := Go.Lib.hid (fun wr (hoff : Off1 d w2 wr) => show KP.R wr (.slice a W.length cap) W from
    (Lay.O.same HO.out (w' := wr) fun q qs hq hB _ => hoff.block q (Array.getElem?_eq_some_iff.1 hq).1 (by have := HDL.out; omega)).r)
  clear hb3
  obtain ⟨q, hq⟩ : ∃ q, q = w2.heap.size := ⟨_, rfl⟩
  rw [← hq] at HIN0 ⊢
  clear hq
  go_wp2_with fail
  go_loopw [31] (fun kv wr => ∃ k : Nat, k ≤ W.length ∧ kv = .int .i64 (k : Int) ∧ Hid (InS T (some (tx, i)) d q W k w2 wr) ∧ Hid (W = [] → Below w.heap.size w wr)) (fun kv _ => W.length - (intOf kv).toNat)
  case atStart => exact ⟨0, by omega, rfl, HIN0, Go.Lib.hid fun _ => HB2.out.alloc HB2.out.size _⟩
  case round =>
    obtain ⟨k, hk, rfl, HIN, HBE⟩ := hrel
    by_cases hkl : k < W.length
    · obtain ⟨b, o, rfl, -, hbs, c0, c1⟩ := KP.at' (HOK.out wr HIN.out.off) k hkl
      have hix := idxP b o W.length cap k hkl wr
      obtain ⟨hp1, hp2⟩ := HWL.out W[k] (List.getElem_mem hkl)
      have hb2 := (Below.refl wr.heap.size wr).alloc (Nat.le_refl _) (.cells #[.int .i64 (W[k].1 : Int), .int .i64 (W[k].2 : Int)] 96)
      have HIN2 := Go.Lib.hid (HIN.out.below hb2)
      have HTURN := Go.Lib.hid (fun w5 (h5 : InS T (some (tx, i)) d q W k w2 w5) => h5.turn hkl hp1 hp2)
      have HNE := Go.Lib.hid (show W ≠ [] by intro e; rw [e] at hkl; simp at hkl)
      have HG := Go.Lib.hid (heap_alloc_new wr (.cells #[.int .i64 (W[k].1 : Int), .int .i64 (W[k].2 : Int)] 96))
      clear hb2
      generalize W[k] = pj at *
      obtain ⟨pb, ps⟩ := pj
      simp only [] at c0 c1 hp1 hp2 HIN2 HTURN HG
      go_upto_region 8 with (fail)
      obtain ⟨p, hp⟩ : ∃ p, p = wr.heap.size := ⟨_, rfl⟩
      rw [← hp] at HG ⊢
      clear hp c0 c1 hix hbs HIN
      generalize wr.alloc (.cells #[.int .i64 (pb : Int), .int .i64 (ps : Int)] 96) = w3 at *
      have p0 : w3.cell? ⟨p, 0, none⟩ = some (.int .i64 (pb : Int)) := by rw [cell_of_row _ _ _ _ _ _ HG.out]; rfl
      have p1 : w3.cell? ⟨p, 1, none⟩ = some (.int .i64 (ps : Int)) := by rw [cell_of_row _ _ _ _ _ _ HG.out]; rfl
      have h1 := fun W => idxB d pb hp1 W
      have h2 := fun W => idxS d (12 * pb) ps hp2 W
      go_quiet (fail)
      have HIN5 := Go.Lib.hid (HIN2.out.below (below_drewN (Below.refl _ _) nq))
      clear HIN2 p0 p1 h1 h2 HG
      generalize w3.drewN nq = w5 at *
      have HIN6 := Go.Lib.hid (HIN5.out.below (wr' := w5.drew) (below_drewN (Below.refl _ _) 1))
      have HT6 := Go.Lib.hid (HTURN.out _ HIN6.out)
      have RU := Go.Lib.hid (HIN6.out.ck.rangeS (4 * pb + ps) (by omega))
      have RE := Go.Lib.hid (show w5.drew.rangeAt q 0 (encO (shiftT T (some (tx, i)) (W.take k)).2) from fun j v hv => by
        have hj : j < 3 := (List.getElem?_eq_some_iff.1 hv).1
        rw [Nat.zero_add]
        rcases (by omega : j = 0 ∨ j = 1 ∨ j = 2) with rfl | rfl | rfl
        · exact HIN6.out.b0.trans hv
        · exact HIN6.out.b1.trans hv
        · exact HIN6.out.b2.trans hv)
      have THQ := Go.Lib.hid (show w5.drew.there q 0 3 from fun j hj => by
        refine ⟨?_, HIN6.out.bf _⟩
        rw [Nat.zero_add]
        rcases (by omega : j = 0 ∨ j = 1 ∨ j = 2) with rfl | rfl | rfl
        · rw [HIN6.out.b0]; rfl
        · rw [HIN6.out.b1]; rfl
        · rw [HIN6.out.b2]; rfl)
      have THD := Go.Lib.hid (show (w5.drew.setCells q 0 (encO ((shiftT T (some (tx, i)) (W.take k)).1 (4 * pb + ps)))).there d (3 * (4 * pb + ps)) 3 from fun j hj => by
        rw [World.frozen?_setCells, World.cell?_setCells_out _ _ _ _ _ (fun hb _ => absurd hb HIN6.out.qd.symm), HIN6.out.ck.cell (4 * pb + ps) j (by omega) hj]
        refine ⟨?_, HIN6.out.ck.fr _⟩
        rw [List.getElem?_eq_getElem (show j < (encO ((shiftT T (some (tx, i)) (W.take k)).1 (4 * pb + ps))).length from hj)]
        rfl)
      have LU := Go.Lib.hid (show (Tryz.prog.info? 78).map (·.size) = some (encO ((shiftT T (some (tx, i)) (W.take k)).1 (4 * pb + ps))).length by kernel_rfl)
      have LE := Go.Lib.hid (show (Tryz.prog.info? 78).map (·.size) = some (encO (shiftT T (some (tx, i)) (W.take k)).2).length by kernel_rfl)
      have OU := Go.Lib.hid (show (encO ((shiftT T (some (tx, i)) (W.take k)).1 (4 * pb + ps))).toArray.all (·.oneCell') = true from all_oneCell_toArray (encO_one _))
      have OE := Go.Lib.hid (show (encO (shiftT T (some (tx, i)) (W.take k)).2).toArray.all (·.oneCell') = true from all_oneCell_toArray (encO_one _))
      have SU := Go.Lib.hid (show (encO ((shiftT T (some (tx, i)) (W.take k)).1 (4 * pb + ps))).toArray.size = 3 from rfl)
      have SE := Go.Lib.hid (show (encO (shiftT T (some (tx, i)) (W.take k)).2).toArray.size = 3 from rfl)
      rw [show 3 * (4 * pb + ps) = 12 * pb + 3 * ps by omega] at HT6 RU THD
      clear HIN5 HIN6 HTURN
      generalize encO ((shiftT T (some (tx, i)) (W.take k)).1 (4 * pb + ps)) = U at *
      generalize encO (shiftT T (some (tx, i)) (W.take k)).2 = E at *
      generalize 12 * pb + 3 * ps = z at *
      go_upto_region 9 with (fail)
      refine wp_region_inv3 (by kernel_rfl) (VIn d z U E) (I9 w5.drew q d z U E) (by decide +kernel) (by decide +kernel) (by rfl) [44, 45, 46, 47, 48, 49] (by rfl) (I9.start _ _ _ _ _ _ _) ?_ ?_
      · intro i o ho a w6 done hI hnot hr hsh hlen hg
        match i, ho with
        | 0, ho =>
          obtain rfl := Option.some.inj ho
          have h11 := given_old hg 11 (by decide +kernel)
          clear hg
          exact st_yield ho (wanted_none rfl) (.pointer (some ⟨d, z, none⟩)) w6 (by simp [execOp, Act.eval, h11, go_sem]) ⟨_, rfl, hI.keep (by decide) (by decide), fun t u _ h => VIn_any d z U E t _ _ u h, by rintro t' ⟨⟩; rfl⟩
        | 1, ho =>
          obtain rfl := Option.some.inj ho
          have h11 := given_old hg 11 (by decide +kernel)
          clear hg
          exact st_yield ho (wanted_none rfl) (.pointer (some ⟨d, z, none⟩)) w6 (by simp [execOp, Act.eval, h11, go_sem]) ⟨_, rfl, hI.keep (by decide) (by decide), fun t u _ h => VIn_any d z U E t _ _ u h, by rintro t' ⟨⟩; rfl⟩
        | 2, ho =>
          obtain rfl := Option.some.inj ho
          obtain ⟨_, h45, rfl⟩ := given_fed hg 45 (by decide +kernel)
          clear hg
          exact st_yield ho (wanted_none rfl) (.pointer (some ⟨d, z, none⟩)) w6 (by simp [execOp, Act.eval, h45, go_sem]) ⟨_, rfl, hI.keep (by decide) (by decide), fun t u _ h => VIn_any d z U E t _ _ u h, by rintro t' ⟨⟩; rfl⟩
        | 3, ho =>
          obtain rfl := Option.some.inj ho
          obtain ⟨_, h46, rfl⟩ := given_fed hg 46 (by decide +kernel)
          clear hg
          have n5 : done 5 = false := by cases h : done 5 with | false => rfl | true => have := hsh 5 3 h (by decide +kernel); rw [hnot] at this; cases this
          obtain rfl := hI.1 n5
          exact st_list ho (wanted_none rfl) fun Q' hQ => wpList_load_mid rfl 78 (.tmp 46) rfl d z (by simp [Act.eval, h46]) U _ RU.out Tryz.underlying78 rfl LU.out (wpList_nil (hQ _ _ ⟨_, rfl, hI.keep (by decide) (by decide), fun t u _ h => VIn_any d z U E t _ _ u h, by rintro t' ⟨⟩; rfl⟩))
        | 4, ho =>
          obtain rfl := Option.some.inj ho
          have h8 := given_old hg 8 (by decide +kernel)
          clear hg
          have n5 : done 5 = false := by cases h : done 5 with | false => rfl | true => have := hsh 5 4 h (by decide +kernel); rw [hnot] at this; cases this
          obtain rfl := hI.1 n5
          exact st_list ho (wanted_none rfl) fun Q' hQ => wpList_load_mid rfl 78 (.tmp 8) rfl q 0 (by simp [Act.eval, h8]) E _ RE.out Tryz.underlying78 rfl LE.out (wpList_nil (hQ _ _ ⟨_, rfl, hI.keep (by decide) (by decide), fun t u _ h => VIn_any d z U E t _ _ u h, by rintro t' ⟨⟩; rfl⟩))
        | 5, ho =>
          obtain rfl := Option.some.inj ho
          have h8 := given_old hg 8 (by decide +kernel)
          obtain ⟨_, h47, rfl⟩ := given_fed hg 47 (by decide +kernel)
          clear hg
          have n7 : done 7 = false := by cases h : done 7 with | false => rfl | true => have := hsh 7 5 h (by decide +kernel); rw [hnot] at this; cases this
          obtain rfl := hI.1 hnot
          exact st_list ho (wanted_none rfl) fun Q' hQ => wpList_store_mid rfl 78 (.tmp 8) (.tmp 47) rfl q 0 U.toArray (by simp [Act.eval, h8]) (by simp [Act.eval, h47]) (by rw [SU.out]; exact THQ.out) (by rw [List.size_toArray]; exact LU.out) OU.out (wpList_nil (hQ _ _ ⟨_, rfl, I9.one _ n7, fun t u _ h => VIn_any d z U E t _ _ u h, by rintro t' ⟨⟩⟩))
        | 6, ho =>
          obtain rfl := Option.some.inj ho
          obtain ⟨_, h44, rfl⟩ := given_fed hg 44 (by decide +kernel)
          clear hg
          exact st_yield ho (wanted_none rfl) (.pointer (some ⟨d, z, none⟩)) w6 (by simp [execOp, Act.eval, h44, go_sem]) ⟨_, rfl, hI.keep (by decide) (by decide), fun t u _ h => VIn_any d z U E t _ _ u h, by rintro t' ⟨⟩; rfl⟩
        | 7, ho =>
          obtain rfl := Option.some.inj ho
          obtain ⟨_, h49, rfl⟩ := given_fed hg 49 (by decide +kernel)
          obtain ⟨_, h48, rfl⟩ := given_fed hg 48 (by decide +kernel)
          clear hg
          have n5 := hr 5 (by decide +kernel)
          obtain rfl := hI.2.1 n5 hnot
          exact st_list ho (wanted_none rfl) fun Q' hQ => wpList_store_mid rfl 78 (.tmp 49) (.tmp 48) rfl d z E.toArray (by simp [Act.eval, h49]) (by simp [Act.eval, h48]) (by rw [SE.out]; exact THD.out) (by rw [List.size_toArray]; exact LE.out) OE.out (wpList_nil (hQ _ _ ⟨_, rfl, I9.two _ n5, fun t u _ h => VIn_any d z U E t _ _ u h, by rintro t' ⟨⟩⟩))
        | n + 8, ho => simp at ho
      · intro f w7 done hall hI hv
        have hw7 := hI.2.2 (hall 7 (by decide))
        subst hw7
        clear hv hall hI RU RE THQ THD LU LE OU OE SU SE
        unfold putAll
        simp only [List.foldl]
        go_simp
        go_wp2_with fail
        go_roundw
        case rel => exact ⟨k + 1, by omega, by go_num, HT6, Go.Lib.hid fun e => absurd e HNE.out⟩
        case measure => simp only [intOf]; omega
    · obtain rfl : k = W.length := by omega
      have HCK := Go.Lib.hid (show CK wr d (shiftT T (some (tx, i)) W).1 by have := HIN.out.ck; rwa [List.take_length] at this)
      have HOF := Go.Lib.hid (show Off1 d w wr from (Off1.of_below HB2.out).trans HIN.out.off)
      clear HIN hkl
      by_cases h0 : W.length = 0
      · have HE := Go.Lib.hid (List.eq_nil_of_length_eq_zero h0)
        have p1 : decide ((0 : Int) < (W.length : Int)) = false := decide_eq_false (by omega)
        have p2 : decide (0 < W.length) = false := decide_eq_false (by omega)
        clear h0
        go_wp2_with fail
        go_ret
        exact ⟨W, HW.out, .inl ⟨HE.out, rfl, HBE.out HE.out⟩⟩
      · have HE := Go.Lib.hid (show W ≠ [] by intro e; rw [e] at h0; exact h0 rfl)
        have p1 : decide ((0 : Int) < (W.length : Int)) = true := decide_eq_true (by omega)
        have p2 : decide (0 < W.length) = true := decide_eq_true (by omega)
        clear h0
        go_wp2_with fail
        go_ret
        exact ⟨W, HW.out, .inr ⟨HE.out, rfl, HCK.out, HOF.out⟩⟩

end Go.Proofs.YtggokffdgjedgaaGreat

namespace Go.Proofs.YtggokffdgjedgaaGreat
open Go.RowKit

theorem way_fits {T : SlT} {es : List EnT} (hf : Fits T es) {x : Nat} {i : Int} {W : List (Nat × Nat)} (h : WayOk T (firstN x) (othN (firstN x) (tagN x)) W) (hne : W ≠ []) : Fits (shiftT T (some (tagN x, i)) W).1 (es ++ [(x, i)]) := by
  rcases h with ⟨h, -⟩ | ⟨c, P, e, s, hc, rfl, h1, h2, h3, h4, h5, h6⟩
  · exact absurd h hne
  · refine shift_fits hf h1 h2 h3 h4 h5 h6 ?_
    unfold keyH
    rcases hc with rfl | rfl
    · rfl
    · exact keyN_oth _ (first_lt x)
section
variable {w : World} {d : Nat} {T : SlT} {es : List EnT}
theorem cinsert_yes (h : CK w d T) (hf : Fits T es) {x : Nat} {i : Int} (hx : x < 18446744073709551616) (hi : idOk i = true) (hr : roomB (es.map Prod.fst ++ [x]) = true) :
    Calls Tryz.prog 32 #[.pointer (some ⟨d, 0, none⟩), .int .u64 (x : Int), .int .i64 i] w fun e w' => e = .returned (.bool true) ∧ (∃ T', CK w' d T' ∧ Fits T' (es ++ [(x, i)])) ∧ Off1 d w w' := by
  refine (cinsert_w h hx hi).mono ?_
  rintro e w' ⟨W, hW, ⟨rfl, -, -⟩ | ⟨hne, rfl, hck, hoff⟩⟩
  · rcases hW with ⟨-, L, h1, h2⟩ | ⟨c, P, e, s, -, h0, -⟩
    · rw [stuck hf h1 h2] at hr
      cases hr
    · simp at h0
  · exact ⟨rfl, ⟨_, hck, way_fits hf hW hne⟩, hoff⟩
theorem cinsert_none (v : Option Addr) {x : Nat} {i : Int} (w : World) (hi : v = none ∨ idOk i = false) :
    Calls Tryz.prog 32 #[.pointer v, .int .u64 (x : Int), .int .i64 i] w fun e w' => e = .returned (.bool false) ∧ Below w.heap.size w w' := by
  have HB := Go.Lib.hid (Below.refl w.heap.size w)
  cases v with
  | none =>
    clear hi
    go_enter Tryz.func32, Tryz.ntmps32
    go_wp2_with fail
    go_ret
    exact ⟨rfl, HB.out⟩
  | some a =>
    have hi2 : idOk i = false := by
      rcases hi with h | h
      · cases h
      · exact h
    have MC := Go.Lib.hid (fun W => cmay_c i W)
    rw [hi2] at MC
    clear hi hi2
    go_enter Tryz.func32, Tryz.ntmps32
    go_wp2_with fail
    refine (MC.out _).mono ?_
    rintro e w1 ⟨rfl, rfl⟩
    go_wp2_with fail
    go_ret
    exact ⟨rfl, HB.out⟩
theorem cinsert_no (h : CK w d T) (hf : Fits T es) {x : Nat} {i : Int} (hx : x < 18446744073709551616) (_hw : (Lit.int .i64 i).wf = true) (hr : (idOk i && roomB (es.map Prod.fst ++ [x])) = false) :
    Calls Tryz.prog 32 #[.pointer (some ⟨d, 0, none⟩), .int .u64 (x : Int), .int .i64 i] w fun e w' => e = .returned (.bool false) ∧ Below w.heap.size w w' := by
  cases hi : idOk i with
  | false => exact cinsert_none _ w (.inr hi)
  | true =>
    rw [hi, Bool.true_and] at hr
    refine (cinsert_w h hx hi).mono ?_
    rintro e w' ⟨W, hW, ⟨rfl, rfl, hb⟩ | ⟨hne, -, -, -⟩⟩
    · exact ⟨rfl, hb⟩
    · have := room_of_fits (way_fits (i := i) hf hW hne)
      rw [List.map_append] at this
      exact absurd (this.symm.trans hr) (by simp)
end
theorem cnil_insert (x : Nat) (i : Int) (_hx : x < 18446744073709551616) (w : World) : Calls Tryz.prog 32 #[.pointer none, .int .u64 (x : Int), .int .i64 i] w fun e w' => e = .returned (.bool false) ∧ Below w.heap.size w w' := cinsert_none none w (.inl rfl)

end Go.Proofs.YtggokffdgjedgaaGreat

namespace Go.Proofs.YtggokffdgjedgaaGreat
open Go.RowKit

theorem row_kept {w w' : World} {b : Nat} {o : Obj} (h : w.heap[b]? = some o) (hb : Below w.heap.size w w') : w'.heap[b]? = some o := (hb.block _ (Array.getElem?_eq_some_iff.1 h).1).trans h
theorem row5 {w : World} {b : Nat} {a0 a1 a2 a3 a4 : Value} {t : TypeId} {fr : Nat × Nat} (h : w.heap[b]? = some (.cells #[a0, a1, a2, a3, a4] t fr)) :
    w.cell? ⟨b, 0, none⟩ = some a0 ∧ w.cell? ⟨b, 1, none⟩ = some a1 ∧ w.cell? ⟨b, 2, none⟩ = some a2 ∧ w.cell? ⟨b, 3, none⟩ = some a3 ∧ w.cell? ⟨b, 4, none⟩ = some a4 := by
  have c := fun j => cell_of_row w b j _ _ _ h
  exact ⟨c 0, c 1, c 2, c 3, c 4⟩
theorem row_lt {w : World} {b : Nat} {o : Obj} (h : w.heap[b]? = some o) : b < w.heap.size := (Array.getElem?_eq_some_iff.1 h).1
theorem RRec.below {w w' : World} {v : Value} {l : List RecT} (h : RRec w v l) (hb : Below w.heap.size w w') : RRec w' v l := by
  have h5 := h.rs.below hb
  obtain ⟨a, cap, hv, h1, h2, h3, h4, -⟩ := h
  subst hv
  obtain ⟨a', cap', e, -, -, -, h5⟩ := h5
  simp only [Value.slice.injEq] at e
  obtain ⟨rfl, -, rfl⟩ := e
  exact ⟨a, cap, rfl, h1, h2, h3, h4, h5⟩

end Go.Proofs.YtggokffdgjedgaaGreat
