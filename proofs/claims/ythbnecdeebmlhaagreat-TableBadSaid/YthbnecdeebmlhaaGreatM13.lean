/-
  Stage 19: the law's Lay.
  Stage 19: the law's begun.
  Stage 20: a store of a table that may be, as laws meet it; the law's begun.
  Stage 19: a table that was changed in a slot.
  The contract of the laws' 'Short(b, n)': the first n bytes.
  Stage 18: room for few; the law's begun.
  Stage 18: what the laws keep beside a log: rows of records of their own; a log and what it was told (the same records by rising keys).
  Stage 20: TableFull's records (mathematics), and the law's val.
-/
import Derived.Test.YthbnecdeebmlhaaGreatM12
import Derived.Test.YthbnecdeebmlhaaGreatM08
import Derived.Test.YthbnecdeebmlhaaGreatM11
import Derived.Test.YthbnecdeebmlhaaGreatM06
import Derived.Test.YthbnecdeebmlhaaGreatM05
import Derived.Test.YthbnecdeebmlhaaGreatM09
import Derived.Test.YthbnecdeebmlhaaGreatM01
import Derived.Test.YthbnecdeebmlhaaGreatM04
import Derived.BigQuiet
import Derived.Deep.DeepCutAuto
import Derived.LoopTactic
import Derived.Maps.OwnSet
import Derived.Maps.OwnOps
import Derived.Sort.KeysCollected
import Derived.Shelf.SlGeneric
import Derived.Shelf.SlIter.Nil
import Derived.Shelf.SortM.Plain
import Derived.Shelf.SortM.SortNone
import Derived.Ground.GgzProg
import Derived.Ground.SlgmProg
import Derived.Test.YthbnecdeebmlhaaGreatProg
import Derived.Carry
import Derived.Test.YthbnecdeebmlhaaGreatM03
namespace Go.Proofs.YthbnecdeebmlhaaGreat
open Go.RowKit

/-- A pointer to a record of the region's own. -/
def RecAt (B : Nat) (w : World) (v : Value) : Prop := ∃ q X, v = .pointer (some ⟨q, 0, none⟩) ∧ B ≤ q ∧ w.heap[q]? = some (.cells X 28 (0, 0)) ∧ X.size = 5
theorem RecAt.below {B : Nat} {w w' : World} {v : Value} (h : RecAt B w v) (hb : Below w.heap.size w w') : RecAt B w' v := by
  obtain ⟨q, X, h1, h2, h3, h4⟩ := h
  exact ⟨q, X, h1, h2, row_kept h3 hb, h4⟩
theorem RecAt.set {B q : Nat} {w : World} {v : Value} {X A : Array Value} (h : RecAt B w v) (hq2 : w.heap[q]? = some (.cells X 28 (0, 0))) (hA : A.size = 5) : RecAt B (w.setRow q A) v := by
  obtain ⟨r, Y, h1, h2, h3, h4⟩ := h
  by_cases e : r = q
  · subst e; exact ⟨r, A, h1, h2, setRow_heap _ _ _ _ _ (0, 0) hq2, hA⟩
  · exact ⟨r, Y, h1, h2, (setRow_other w q r A e).trans h3, h4⟩
def VLy (B g7 : Nat) (TL : List Value) (k2 ky : ByteArray) (gy : Bool) (ay ny : Int) (sy : ByteArray) (q : Bool) : Nat → World → Value → Prop
  | 30, _, v => v = .agg TL.toArray
  | 32, _, v => v = .pointer (some ⟨g7, 0, none⟩)
  | 33, _, v => v = .string k2
  | 34, _, v => v = .tuple #[.agg #[.string ky, .bool gy, .int .i64 ay, .int .i64 ny, .string sy], .bool q]
  | 29, _, v => v = .tuple #[.agg #[.string ky, .bool gy, .int .i64 ay, .int .i64 ny, .string sy], .bool q]
  | 35, _, v => v = .agg #[.string ky, .bool gy, .int .i64 ay, .int .i64 ny, .string sy]
  | 36, _, v => v = .bool q
  | 8, w, v => RecAt B w v
  | 9, _, v => v = .bool q
  | _, _, _ => True
theorem VLy_below (B g7 : Nat) (TL : List Value) (k2 ky : ByteArray) (gy : Bool) (ay ny : Int) (sy : ByteArray) (q : Bool) : ∀ (i' : Nat) (w w' : World) (v : Value), VLy B g7 TL k2 ky gy ay ny sy q i' w v → Below w.heap.size w w' → VLy B g7 TL k2 ky gy ay ny sy q i' w' v := by
  intro i' w w' v h hb
  unfold VLy at h ⊢
  split at h <;> first | exact h | trivial | exact RecAt.below h hb
theorem VLy_set (B g7 : Nat) (TL : List Value) (k2 ky : ByteArray) (gy : Bool) (ay ny : Int) (sy : ByteArray) (q : Bool) {w : World} {r : Nat} {X A : Array Value} (hq2 : w.heap[r]? = some (.cells X 28 (0, 0))) (hA : A.size = 5) : ∀ (i' : Nat) (v : Value), VLy B g7 TL k2 ky gy ay ny sy q i' w v → VLy B g7 TL k2 ky gy ay ny sy q i' (w.setRow r A) v := by
  intro i' v h
  unfold VLy at h ⊢
  split at h <;> first | exact h | trivial | exact RecAt.set h hq2 hA
/-- What the region has done: the table's records are a row until they are looked through. -/
structure ILy (w0 : World) (RC : List RecT) (done : Nat → Bool) (a : Act) (w : World) : Prop where
  bel : Below w0.heap.size w0 w
  s31 : done 1 = true → done 4 = false → ∃ v, a.tmps[31]? = some v ∧ RS w v RC
section
variable {w0 w w' : World} {RC : List RecT} {done : Nat → Bool} {a a' : Act}
theorem ILy.keep (h : ILy w0 RC done a w) {i : Nat} (n1 : 1 ≠ i) (h31 : a'.tmps[31]? = a.tmps[31]?) (hb : Below w.heap.size w w') : ILy w0 RC (doneToo done i) a' w' := by
  refine ⟨h.bel.trans (hb.mono h.bel.size), fun e f => ?_⟩
  rw [doneToo_other n1] at e
  have f4 : done 4 = false := by
    by_cases c : 4 = i
    · subst c; rw [doneToo_self] at f; cases f
    · rw [doneToo_other c] at f; exact f
  obtain ⟨v, h1, h2⟩ := h.s31 e f4
  exact ⟨v, by rw [h31]; exact h1, h2.below hb⟩
theorem ILy.recs (h : ILy w0 RC done a w) {v : Value} (hs : 31 < a.tmps.size) (hb : Below w.heap.size w w') (hr : RS w' v RC) : ILy w0 RC (doneToo done 1) (a.put (some 31) v) w' :=
  ⟨h.bel.trans (hb.mono h.bel.size), fun _ _ => ⟨v, by simp [Act.put, hs], hr⟩⟩
theorem ILy.store (h : ILy w0 RC done a w) (d4 : done 4 = true) {q : Nat} (A : Array Value) (hq1 : w0.heap.size ≤ q) : ILy w0 RC (doneToo done 9) (a.put none undef) (w.setRow q A) :=
  ⟨setRow_below A h.bel hq1, fun _ f => by rw [doneToo_other (by decide)] at f; rw [d4] at f; cases f⟩
end
def VLz (g5 _g7 b k : Nat) (k2 : ByteArray) (gx : Bool) (ax nx : Int) (s2 : ByteArray) : Nat → World → Value → Prop
  | 77, _, v => v = .int .i64 (b : Int)
  | 78, _, v => v = .int .i64 (k : Int)
  | 79, _, v => v = .agg #[.string k2, .bool gx, .int .i64 ax, .int .i64 nx, .string s2]
  | 80, _, v => v = .agg #[.bool true, .string k2, .bool gx, .int .i64 ax, .int .i64 nx, .string s2]
  | 81, _, v => v = .pointer (some ⟨g5, 24 * b, none⟩)
  | 82, _, v => v = .pointer (some ⟨g5, 24 * b + 6 * k, none⟩)
  | _, _, _ => True
theorem VLz_below (g5 g7 b k : Nat) (k2 : ByteArray) (gx : Bool) (ax nx : Int) (s2 : ByteArray) : ∀ (i' : Nat) (w w' : World) (v : Value), VLz g5 g7 b k k2 gx ax nx s2 i' w v → Below w.heap.size w w' → VLz g5 g7 b k k2 gx ax nx s2 i' w' v := by
  intro i' w w' v h hb
  unfold VLz at h ⊢
  split at h <;> first | exact h | trivial | exact h
theorem ret_llay_at {w w0 : World} {tmps : Array Value} {TL : List Value} {g : Nat} {fr : Nat × Nat}
    (hp : tmps.getD 4 undef = .pointer (some ⟨g, 0, none⟩)) (hg : w.heap[g]? = some (.cells TL.toArray 33 fr)) (hs : (Tryz.prog.info? 33).map (·.size) = some TL.length) (hb : Below w0.heap.size w0 w) :
    bodyPost Tryz.prog Tryz.f9 (fun e w' => e = .returned (.agg TL.toArray) ∧ Below w0.heap.size w0 w') Exit.ret { tmps := tmps, defers := [] } w :=
  bodyPost_ret (results_cell_row (P := Tryz.prog) (fn := Tryz.f9) (p := 4) (ty := 33) rfl tmps w g 33 TL.toArray fr _ hp hg Tryz.underlying33 rfl (by rw [hs, List.size_toArray])) rfl ⟨rfl, hb⟩

set_option maxHeartbeats 16000000 in
set_option maxRecDepth 100000 in
theorem llay_c (v tv : Value) (l : List RecT) (turn : List Bool) (w : World) (hv : RS w v l) (ht : RV w tv (zb turn)) (hok : ∀ x ∈ l, RecOk x) :
    Calls Tryz.prog 9 #[v, tv] w fun e w' => e = .returned (.agg (tabL (layN l turn (min l.length 40)) 32).toArray) ∧ Below w.heap.size w w' := by
  have hz := zero_tabRZ
  have HZS := Go.Lib.hid (sizeTab zeroT)
  have HLE := Go.Lib.hid (fun TT => show (tabL zeroT 32).length = (tabL TT 32).length from by rw [tabL_len, tabL_len])
  have HT0 := Go.Lib.hid (fun W => TK.new W zeroT)
  have HOK := Go.Lib.hid hok
  have HLO := Go.Lib.hid (layN_ok turn hok)
  generalize tabL zeroT 32 = ZL at *
  obtain ⟨FT, hFT⟩ : ∃ FT, FT = tabL (layN l turn (min l.length 40)) 32 := ⟨_, rfl⟩
  rw [← hFT]
  have HFT := Go.Lib.hid hFT
  clear hFT
  obtain ⟨a, cap, rfl, hlm⟩ := hv.form
  obtain ⟨ta, tcap, rfl, htm, -⟩ := ht.zbForm
  have HR := Go.Lib.hid hv
  have HTU := Go.Lib.hid ht
  have hb1 := below_one w (.cells ZL.toArray 33)
  have HZ1 := Go.Lib.hid (heap_alloc_new w (.cells ZL.toArray 33))
  have HB1 := Go.Lib.hid hb1
  have HS1 := Go.Lib.hid (show (w.alloc (.cells ZL.toArray 33)).heap.size = w.heap.size + 1 from Array.size_push _)
  clear hv ht hok hb1
  go_enter Tryz.func9, Tryz.ntmps9
  go_upto_region 1 with (fail)
  generalize w.alloc (.cells ZL.toArray 33) = w1 at *
  obtain ⟨g, hg⟩ : ∃ g, g = w.heap.size := ⟨_, rfl⟩
  rw [← hg] at HZ1 HS1 ⊢
  have HG := Go.Lib.hid (show w.heap.size ≤ g by omega)
  clear hg
  go_upto_region 2 with (fail)
  have hb2 := below_one w1 (.cells ZL.toArray 33)
  have HZ2 := Go.Lib.hid (row_kept HZ1.out hb2)
  have HB2 := Go.Lib.hid (HB1.out.trans (hb2.mono HB1.out.size))
  have HD2 := Go.Lib.hid (HT0.out w1)
  obtain ⟨g5, hg5⟩ : ∃ g5, g5 = w1.heap.size := ⟨_, rfl⟩
  have HG5 := Go.Lib.hid (show g5 = g + 1 by rw [hg5, HS1.out])
  rw [← hg5] at HD2 ⊢
  clear hb2 HZ1 HB1 HT0 hg5 HS1
  generalize w1.alloc (.cells ZL.toArray 33) = w2 at *
  go_wp2_with fail
  go_loopw [6] (fun iv wr => ∃ i : Nat, i ≤ l.length ∧ i ≤ 40 ∧ iv = .int .i64 (i : Int) ∧ Hid (TK wr g5 (layN l turn i)) ∧ Hid (wr.heap[g]? = some (.cells ZL.toArray 33)) ∧ Hid (Below w.heap.size w wr)) (fun iv _ => 40 - (intOf iv).toNat)
  case atStart => exact ⟨0, by omega, by omega, rfl, HD2, HZ2, HB2⟩
  case round =>
    clear HD2 HZ2 HB2 hz
    obtain ⟨i, hil, hi40, rfl, HD, HZ, HB⟩ := hrel
    by_cases hlt : i < l.length ∧ i < 40
    · have hltI : (i : Int) < (l.length : Int) := by omega
      have hltJ : (i : Int) < 40 := by omega
      obtain ⟨b, o, rfl, -, -, c0, c1, c2, c3, c4⟩ := (HR.out.below HB.out).at i hlt.1
      have hix := run_idx5 b o l.length cap i hlt.1
      have hxok := HOK.out l[i] (List.getElem_mem hlt.1)
      have HLN := Go.Lib.hid (show layN l turn (i + 1) = lay1 (layN l turn i) i (cutR l[i]) (turn.getD i false) from by
        rw [layN, List.getD_eq_getElem?_getD, List.getElem?_eq_getElem hlt.1]
        rfl)
      have HCO := Go.Lib.hid (cutR_ok hxok)
      have HLI := Go.Lib.hid (HLO.out i)
      have CC := rcut_c l[i].1 l[i].2.1 l[i].2.2.1 l[i].2.2.2.1 l[i].2.2.2.2 wr hxok.1 hxok.2.2.2
      have hsz : (cutR l[i]).1.size ≤ 20 ∧ (cutR l[i]).2.2.2.2.size ≤ 30 := by
        refine cut_sizes (l := l) (n := l.length) (List.mem_map.2 ⟨l[i], ?_, rfl⟩)
        rw [List.take_length]
        exact List.getElem_mem hlt.1
      unfold recV at CC
      rw [show cutR l[i] = (str ((bl l[i].1).take 20), l[i].2.1, l[i].2.2.1, l[i].2.2.2.1, str ((bl l[i].2.2.2.2).take 30)) from rfl] at HLN HCO hsz
      generalize l[i] = x at *
      obtain ⟨kx, gx, ax, nx, sx⟩ := x
      simp only [] at c0 c1 c2 c3 c4 CC HLN HCO hsz
      generalize str ((bl kx).take 20) = k2 at *
      generalize str ((bl sx).take 30) = s2 at *
      have CC := Go.Lib.hid CC
      clear hxok
      go_wp2_with fail
      refine CC.out.mono ?_
      rintro e w3 ⟨rfl, hc⟩
      have hb4 := below_one w3 (.cells #[.string k2, .bool gx, .int .i64 ax, .int .i64 nx, .string s2] 28)
      have HX4 := Go.Lib.hid (heap_alloc_new w3 (.cells #[.string k2, .bool gx, .int .i64 ax, .int .i64 nx, .string s2] 28))
      have hc4 := hc.trans (hb4.mono hc.size)
      have HD4 := Go.Lib.hid (HD.out.below hc4)
      have HZ4 := Go.Lib.hid (row_kept HZ.out hc4)
      have HB4 := Go.Lib.hid (HB.out.trans (hc4.mono HB.out.size))
      clear hc hb4 hc4 CC HD HZ HB c0 c1 c2 c3 c4 hix
      go_upto_region 6 with (fail)
      obtain ⟨g7, hg7⟩ : ∃ g7, g7 = w3.heap.size := ⟨_, rfl⟩
      rw [← hg7] at HX4 ⊢
      clear hg7
      generalize w3.alloc (.cells #[.string k2, .bool gx, .int .i64 ax, .int .i64 nx, .string s2] 28) = w4 at *
      generalize layN l turn i = TT at *
      have HRC := Go.Lib.hid (show (recsT TT 32).length ≤ 32 from recsT_len TT 32)
      have HFD := Go.Lib.hid (show findK keyR (newestR (recsT TT 32)) k2.toList = findK keyR (newestR (recsT TT 32)) k2.toList from rfl)
      have CR := Go.Lib.hid fun W => rrecs_c TT W
      have CF := fun v W (h : RS W v (newestR (recsT TT 32))) => rfind_c v (newestR (recsT TT 32)) k2 W h
      have HRNG := Go.Lib.hid (fun W (hb : Below w4.heap.size w4 W) => (HD4.out.below hb).range)
      have HSZ := Go.Lib.hid (sizeTab TT)
      have HL1 := Go.Lib.hid (show lay1 TT i (k2, gx, ax, nx, s2) (turn.getD i false) = if (findK keyR (newestR (recsT TT 32)) k2.toList).isSome || !mayT (k2, gx, ax, nx, s2) then TT else layPut TT (layB (k2, gx, ax, nx, s2) (turn.getD i false)) i (k2, gx, ax, nx, s2) from rfl)
      generalize newestR (recsT TT 32) = RC at *
      generalize findK keyR RC k2.toList = fo at *
      unfold outR recOf recV at CF
      obtain ⟨q, hq⟩ : ∃ q, q = fo.isSome := ⟨_, rfl⟩
      rw [← hq] at CF HL1
      clear hq HFD
      generalize fo.getD nullR = y at *
      obtain ⟨ky, gy, ay, ny, sy⟩ := y
      simp only [] at CF
      have CF := Go.Lib.hid CF
      generalize tabL TT 32 = TL at *
      refine wp_region_inv3 (by kernel_rfl) (VLy w4.heap.size g7 TL k2 ky gy ay ny sy q) (ILy w4 RC) (by decide +kernel) (by decide +kernel) (by rfl) [30, 31, 32, 33, 34, 29, 35, 36, 8, 9] (by rfl) ⟨below_drewN (Below.refl _ _) 1, (fun e => by cases e)⟩ ?_ ?_
      · intro i' o' ho a' w8 done hI hnot hr hsh hlen hg
        match i', ho with
        | 0, ho =>
          obtain rfl := Option.some.inj ho
          have h5 := given_old hg 5 (by decide +kernel)
          clear hg
          exact st_list ho (wanted_none rfl) fun Q' hQ => wpList_load_mid rfl 33 (.tmp 5) rfl g5 0 (by simp [Act.eval, h5]) TL _ (HRNG.out w8 hI.bel) Tryz.underlying33 rfl HSZ.out (wpList_nil (hQ _ _ ⟨_, rfl, hI.keep (by decide) (put_tmps_other (by decide)) (Below.refl _ _), fun _ _ _ h => h, by rintro t' ⟨⟩; rfl⟩))
        | 1, ho =>
          obtain rfl := Option.some.inj ho
          obtain ⟨_, h30, rfl⟩ := given_fed hg 30 (by decide +kernel)
          clear hg
          exact st_enter (w1 := w8) ho (wanted_none rfl) 36 #[.agg TL.toArray] (by simp [execOp, Act.eval, h30, resolve, go_sem]) ((CR.out w8).mono (by
            rintro e w9 ⟨u, rfl, ho9, hb9⟩
            exact ⟨u, rfl, u, rfl, hI.recs (by rw [hlen]; simp) hb9 ho9.rs, fun t u' _ h => VLy_below _ _ _ _ _ _ _ _ _ _ t w8 _ u' h hb9, by rintro t' ⟨⟩; trivial⟩))
        | 2, ho =>
          obtain rfl := Option.some.inj ho
          have h7 := given_old hg 7 (by decide +kernel)
          clear hg
          exact st_yield ho (wanted_none rfl) (.pointer (some ⟨g7, 0, none⟩)) w8 (by simp [execOp, Act.eval, h7, go_sem]) ⟨_, rfl, hI.keep (by decide) (put_tmps_other (by decide)) (Below.refl _ _), fun _ _ _ h => h, by rintro t' ⟨⟩; rfl⟩
        | 3, ho =>
          obtain rfl := Option.some.inj ho
          obtain ⟨_, h32, rfl⟩ := given_fed hg 32 (by decide +kernel)
          obtain ⟨y0, y1, y2, y3, y4⟩ := row5 (row_kept HX4.out hI.bel)
          clear hg
          exact st_yield ho (wanted_none rfl) (.string k2) w8 (by simp [execOp, Act.eval, h32, go_sem, y0]) ⟨_, rfl, hI.keep (by decide) (put_tmps_other (by decide)) (Below.refl _ _), fun _ _ _ h => h, by rintro t' ⟨⟩; rfl⟩
        | 4, ho =>
          obtain rfl := Option.some.inj ho
          obtain ⟨_, h33, rfl⟩ := given_fed hg 33 (by decide +kernel)
          obtain ⟨v31, h31, hr31⟩ := hI.s31 (hr 1 (by decide +kernel)) hnot
          clear hg
          exact st_enter (w1 := w8) ho (wanted_none rfl) 35 #[v31, .string k2] (by simp [execOp, Act.eval, h31, h33, resolve, go_sem]) ((CF.out v31 w8 hr31).mono (by
            rintro e w9 ⟨rfl, hb9⟩
            exact ⟨_, rfl, _, rfl, hI.keep (by decide) (put_tmps_other (by decide)) hb9, fun t u' _ h => VLy_below _ _ _ _ _ _ _ _ _ _ t w8 _ u' h hb9, by rintro t' ⟨⟩; rfl⟩))
        | 5, ho =>
          obtain rfl := Option.some.inj ho
          obtain ⟨_, h34, rfl⟩ := given_fed hg 34 (by decide +kernel)
          clear hg
          exact st_yield ho (wanted_none rfl) (.tuple #[.agg #[.string ky, .bool gy, .int .i64 ay, .int .i64 ny, .string sy], .bool q]) w8 (by simp [execOp, Act.eval, h34, go_sem]) ⟨_, rfl, hI.keep (by decide) (put_tmps_other (by decide)) (Below.refl _ _), fun _ _ _ h => h, by rintro t' ⟨⟩; rfl⟩
        | 6, ho =>
          obtain rfl := Option.some.inj ho
          obtain ⟨_, h29, rfl⟩ := given_fed hg 29 (by decide +kernel)
          clear hg
          exact st_yield ho (wanted_none rfl) (.agg #[.string ky, .bool gy, .int .i64 ay, .int .i64 ny, .string sy]) w8 (by simp [execOp, Act.eval, h29, go_sem]) ⟨_, rfl, hI.keep (by decide) (put_tmps_other (by decide)) (Below.refl _ _), fun _ _ _ h => h, by rintro t' ⟨⟩; rfl⟩
        | 7, ho =>
          obtain rfl := Option.some.inj ho
          obtain ⟨_, h29, rfl⟩ := given_fed hg 29 (by decide +kernel)
          clear hg
          exact st_yield ho (wanted_none rfl) (.bool q) w8 (by simp [execOp, Act.eval, h29, go_sem]) ⟨_, rfl, hI.keep (by decide) (put_tmps_other (by decide)) (Below.refl _ _), fun _ _ _ h => h, by rintro t' ⟨⟩; rfl⟩
        | 8, ho =>
          obtain rfl := Option.some.inj ho
          clear hg
          exact st_yield ho (wanted_none rfl) (.pointer (some ⟨w8.heap.size, 0, none⟩)) (w8.alloc (.cells #[.string ⟨#[]⟩, .bool false, .int .i64 0, .int .i64 0, .string ⟨#[]⟩] 28)) (by simp [execOp, go_sem]) ⟨_, rfl, hI.keep (by decide) (put_tmps_other (by decide)) (below_one _ _), fun t u' _ h => VLy_below _ _ _ _ _ _ _ _ _ _ t w8 _ u' h (below_one _ _), by rintro t' ⟨⟩; exact ⟨w8.heap.size, _, rfl, hI.bel.size, heap_alloc_new w8 _, rfl⟩⟩
        | 9, ho =>
          obtain rfl := Option.some.inj ho
          obtain ⟨v8, h8, p8⟩ := given_fed hg 8 (by decide +kernel)
          obtain ⟨_, h35, rfl⟩ := given_fed hg 35 (by decide +kernel)
          obtain ⟨r8, X, rfl, hq1, hq2, hq3⟩ := p8
          clear hg
          exact st_list ho (wanted_none rfl) fun Q' hQ => wpList_store_row rfl 28 (.tmp 8) (.tmp 35) rfl r8 #[.string ky, .bool gy, .int .i64 ay, .int .i64 ny, .string sy] (by simp [Act.eval, h8]) (by simp [Act.eval, h35]) 28 X hq2 (by kernel_rfl) hq3 (rec_cells_one ..) (wpList_nil (hQ _ _ ⟨undef, rfl, hI.store (hr 4 (by decide +kernel)) _ hq1, fun t u' _ h => VLy_set _ _ _ _ _ _ _ _ _ _ hq2 rfl t u' h, by rintro t' ⟨⟩⟩))
        | 10, ho =>
          obtain rfl := Option.some.inj ho
          obtain ⟨_, h36, rfl⟩ := given_fed hg 36 (by decide +kernel)
          clear hg
          exact st_yield ho (wanted_none rfl) (.bool q) w8 (by simp [execOp, Act.eval, h36, go_sem]) ⟨_, rfl, hI.keep (by decide) (put_tmps_other (by decide)) (Below.refl _ _), fun _ _ _ h => h, by rintro t' ⟨⟩; rfl⟩
        | n + 11, ho => simp at ho
      · intro f w9 done hall hI hv
        have h9 := hv 9 (by decide)
        simp only [VLy] at h9
        have HX9 := Go.Lib.hid (row_kept HX4.out hI.bel)
        have HD9 := Go.Lib.hid (HD4.out.below hI.bel)
        have HZ9 := Go.Lib.hid (row_kept HZ4.out hI.bel)
        have HB9 := Go.Lib.hid (HB4.out.trans (hI.bel.mono HB4.out.size))
        clear hv hall hI HX4 HD4 HZ4 HB4 CR CF HRNG HSZ
        unfold putAll
        simp only [List.foldl]
        simp only [h9]
        clear h9
        go_simp
        cases q with
        | true =>
          simp only [Bool.true_or, if_true] at HL1
          have HD10 := Go.Lib.hid (show TK w9 g5 (layN l turn (i + 1)) by rw [HLN.out, HL1.out]; exact HD9.out)
          go_wp2_with fail
          go_roundw
          case rel => exact ⟨i + 1, by omega, by omega, by go_num, HD10, HZ9, HB9⟩
          case measure => simp only [intOf]; omega
        | false =>
          rw [Bool.false_or] at HL1
          obtain ⟨x0, x1, x2, x3, x4⟩ := row5 HX9.out
          have CM := Go.Lib.hid (rmayT_c k2 gx ax nx s2 w9 hsz.1 hsz.2)
          have HMT := Go.Lib.hid (show mayT (k2, gx, ax, nx, s2) = mayT (k2, gx, ax, nx, s2) from rfl)
          generalize hmt : mayT (k2, gx, ax, nx, s2) = mt at CM HL1
          have HMT := Go.Lib.hid hmt
          clear hmt
          go_wp2_with fail
          refine CM.out.mono ?_
          rintro e w10 ⟨rfl, hc⟩
          have HX10 := Go.Lib.hid (row_kept HX9.out hc)
          have HD10 := Go.Lib.hid (HD9.out.below hc)
          have HZ10 := Go.Lib.hid (row_kept HZ9.out hc)
          have HB10 := Go.Lib.hid (HB9.out.trans (hc.mono HB9.out.size))
          clear hc CM HX9 HD9 HZ9 HB9 x0 x1 x2 x3 x4
          cases mt with
          | false =>
            simp only [Bool.not_false, if_true] at HL1
            have HD11 := Go.Lib.hid (show TK w10 g5 (layN l turn (i + 1)) by rw [HLN.out, HL1.out]; exact HD10.out)
            go_wp2_with fail
            go_roundw
            case rel => exact ⟨i + 1, by omega, by omega, by go_num, HD11, HZ10, HB10⟩
            case measure => simp only [intOf]; omega
          | true =>
            simp only [Bool.not_true, Bool.false_eq_true, if_false] at HL1
            obtain ⟨x0, x1, x2, x3, x4⟩ := row5 HX10.out
            have CH := Go.Lib.hid (rhash_k k2 (hashS k2) rfl w10 (by omega))
            have HHL := Go.Lib.hid (hashS_lt k2)
            have HB8 := Go.Lib.hid (fun t => layB_lt (k2, gx, ax, nx, s2) t)
            have HBT := Go.Lib.hid (show layB (k2, gx, ax, nx, s2) true = othN (firstN (hashS k2)) (tagN (hashS k2)) from by unfold layB; rw [if_pos rfl]; rfl)
            have HBF := Go.Lib.hid (show layB (k2, gx, ax, nx, s2) false = firstN (hashS k2) from by unfold layB; rw [if_neg (by decide)]; rfl)
            have HFL := Go.Lib.hid (first_lt (hashS k2))
            have HTL := Go.Lib.hid (tag_lt (hashS k2))
            go_wp2_with fail
            refine CH.out.mono ?_
            rintro e w11 ⟨rfl, hc⟩
            have HX11 := Go.Lib.hid (row_kept HX10.out hc)
            have HD11 := Go.Lib.hid (HD10.out.below hc)
            have HZ11 := Go.Lib.hid (row_kept HZ10.out hc)
            have HB11 := Go.Lib.hid (HB10.out.trans (hc.mono HB10.out.size))
            have CFI := Go.Lib.hid (rfirst_c (hashS k2) w11 HHL.out)
            have CTG := Go.Lib.hid fun W => rtag_c (hashS k2) W HHL.out
            have COT := fun W => rother_c (firstN (hashS k2) : Int) (tagN (hashS k2) : Int) W
            rw [otherI_nat HFL.out HTL.out] at COT
            have COT := Go.Lib.hid COT
            clear hc CH HX10 HD10 HZ10 HB10 x0 x1 x2 x3 x4
            generalize othN (firstN (hashS k2)) (tagN (hashS k2)) = ofN at *
            generalize firstN (hashS k2) = ff at *
            generalize tagN (hashS k2) = ft at *
            generalize hashS k2 = hx at *
            go_wp2_with fail
            refine CFI.out.mono ?_
            rintro e w12 ⟨rfl, rfl⟩
            clear CFI
            by_cases htl : i < turn.length
            · have htlI : (i : Int) < (turn.length : Int) := by omega
              obtain ⟨tb, to_, rfl, t0, -⟩ := (HTU.out.below HB11.out).zbAt i htl
              have HGD := Go.Lib.hid (show turn.getD i false = turn[i] from by rw [List.getD_eq_getElem?_getD, List.getElem?_eq_getElem htl]; rfl)
              generalize turn[i] = tn at *
              cases tn with
              | true =>
                have HLP := Go.Lib.hid (show layN l turn (i + 1) = layPut TT ofN i (k2, gx, ax, nx, s2) by rw [HLN.out, HL1.out, HGD.out, HBT.out])
                have hbb := HB8.out true
                rw [HBT.out] at hbb
                generalize ofN = bb at *
                clear HGD htl
                go_wp2_with fail
                refine (CTG.out _).mono ?_
                rintro e w13 ⟨rfl, rfl⟩
                go_wp2_with fail
                refine (COT.out _).mono ?_
                rintro e w13 ⟨rfl, rfl⟩
                clear CTG COT t0
                as_aux_lemma =>
                  go_wp2_with fail
                  go_loopw [12] (fun sv wr => ∃ s : Nat, s ≤ 4 ∧ sv = .int .i64 (s : Int) ∧ Hid (∀ s', s' < s → (TT (4 * bb + (s' + i) % 4)).1 = true) ∧ Hid (wr.heap[g7]? = some (.cells #[.string k2, .bool gx, .int .i64 ax, .int .i64 nx, .string s2] 28)) ∧ Hid (TK wr g5 TT) ∧ Hid (wr.heap[g]? = some (.cells ZL.toArray 33)) ∧ Hid (Below w.heap.size w wr)) (fun sv _ => 4 - (intOf sv).toNat)
                  case atStart => exact ⟨0, by omega, rfl, Go.Lib.hid (fun s' h => absurd h (by omega)), HX11, HD11, HZ11, HB11⟩
                  case round =>
                    clear HX11 HD11 HZ11 HB11
                    obtain ⟨s, hs4, rfl, HOC, HX, HD, HZ, HB⟩ := hrel
                    by_cases hslt : s < 4
                    · have hsI : (s : Int) < 4 := by omega
                      obtain ⟨K, hK⟩ : ∃ K, K = (s + i) % 4 := ⟨_, rfl⟩
                      have hK4 : K < 4 := by omega
                      have r1 : ((s : Int) + (i : Int)).tmod 4 = (K : Int) := by rw [Int.tmod_eq_emod_of_nonneg (by omega)]; omega
                      have HK := Go.Lib.hid hK
                      obtain ⟨c0, -⟩ := HD.out.at hbb hK4
                      have hix1 := idxT g5 bb hbb
                      have hix2 := idxT2 g5 (24 * bb) K hK4
                      have HOC1 := Go.Lib.hid (fun (h : (TT (4 * bb + K)).1 = true) => show ∀ s', s' < s + 1 → (TT (4 * bb + (s' + i) % 4)).1 = true from fun s' hs' => by
                        rcases Nat.lt_or_ge s' s with h2 | h2
                        · exact HOC.out s' h2
                        · obtain rfl : s' = s := by omega
                          rw [← HK.out]; exact h)
                      have HPUT := Go.Lib.hid (fun (h : (TT (4 * bb + K)).1 = false) => show layPut TT bb i (k2, gx, ax, nx, s2) = setT TT (4 * bb + K) (true, (k2, gx, ax, nx, s2)) from by
                        unfold layPut
                        rw [layK_some hslt (by rw [← HK.out]; exact h) HOC.out, HK.out])
                      clear hK HOC
                      generalize hfr : (TT (4 * bb + K)).1 = fr at c0 HOC1 HPUT
                      clear hfr
                      cases fr with
                      | true =>
                        have HN := Go.Lib.hid (HOC1.out rfl)
                        go_wp2_with fail
                        exact ⟨⟨s + 1, by omega, by go_num, HN, HX, HD, HZ, HB⟩, by simp only [intOf]; omega⟩
                      | false =>
                        have HPX := Go.Lib.hid (HPUT.out rfl)
                        clear HPUT HOC1
                        go_upto_region 17 with (fail)
                        refine wp_region_head 6 (by decide) (by kernel_rfl) (VLz g5 g7 bb K k2 gx ax nx s2) (VLz_below g5 g7 bb K k2 gx ax nx s2) (by decide +kernel) (by rfl) [77, 78, 79, 80, 81, 82] (by rfl) ?_ ?_
                        · intro i' o' hin ho a' w8 hb8 hlen hg
                          obtain ⟨y0, y1, y2, y3, y4⟩ := row5 (row_kept HX.out hb8)
                          match i', hin, ho with
                          | 0, hin, ho =>
                            obtain rfl := Option.some.inj ho
                            have h11 := given_old hg 11 (by decide +kernel)
                            clear hg
                            exact st_yield ho (wanted_none rfl) (.int .i64 (bb : Int)) w8 (by simp [execOp, Act.eval, h11, go_sem]) ⟨_, rfl, Below.refl _ _, by rintro t' ⟨⟩; rfl⟩
                          | 1, hin, ho =>
                            obtain rfl := Option.some.inj ho
                            have h13 := given_old hg 13 (by decide +kernel)
                            clear hg
                            exact st_yield ho (wanted_none rfl) (.int .i64 (K : Int)) w8 (by simp [execOp, Act.eval, h13, go_sem]) ⟨_, rfl, Below.refl _ _, by rintro t' ⟨⟩; rfl⟩
                          | 2, hin, ho =>
                            obtain rfl := Option.some.inj ho
                            have h7 := given_old hg 7 (by decide +kernel)
                            clear hg
                            exact st_yield ho (wanted_none rfl) (.agg #[.string k2, .bool gx, .int .i64 ax, .int .i64 nx, .string s2]) w8 (by simp [execOp, Act.eval, h7, go_sem, y0, y1, y2, y3, y4]) ⟨_, rfl, Below.refl _ _, by rintro t' ⟨⟩; rfl⟩
                          | 3, hin, ho =>
                            obtain rfl := Option.some.inj ho
                            obtain ⟨_, h79, rfl⟩ := given_fed hg 79 (by decide +kernel)
                            clear hg
                            exact st_yield ho (wanted_none rfl) (.agg #[.bool true, .string k2, .bool gx, .int .i64 ax, .int .i64 nx, .string s2]) w8 (by simp [execOp, Act.eval, h79, build_rslot true k2 gx ax nx s2 w8]) ⟨_, rfl, Below.refl _ _, by rintro t' ⟨⟩; rfl⟩
                          | 4, hin, ho =>
                            obtain rfl := Option.some.inj ho
                            have h5 := given_old hg 5 (by decide +kernel)
                            obtain ⟨_, h77, rfl⟩ := given_fed hg 77 (by decide +kernel)
                            clear hg
                            exact st_yield ho (wanted_none rfl) (.pointer (some ⟨g5, 24 * bb, none⟩)) w8 (by simp [execOp, Act.eval, h5, h77, go_sem, hix1]) ⟨_, rfl, Below.refl _ _, by rintro t' ⟨⟩; rfl⟩
                          | 5, hin, ho =>
                            obtain rfl := Option.some.inj ho
                            obtain ⟨_, h81, rfl⟩ := given_fed hg 81 (by decide +kernel)
                            obtain ⟨_, h78, rfl⟩ := given_fed hg 78 (by decide +kernel)
                            clear hg
                            exact st_yield ho (wanted_none rfl) (.pointer (some ⟨g5, 24 * bb + 6 * K, none⟩)) w8 (by simp [execOp, Act.eval, h81, h78, go_sem, hix2]) ⟨_, rfl, Below.refl _ _, by rintro t' ⟨⟩; rfl⟩
                          | n + 6, hin, ho => omega
                        · intro f w8 hb8 hv
                          have h80 := hv 80 (by decide)
                          have h82 := hv 82 (by decide)
                          simp only [VLz] at h80 h82
                          have HD8 := Go.Lib.hid (HD.out.below hb8)
                          have HZ8 := Go.Lib.hid (row_kept HZ.out hb8)
                          have HB8 := Go.Lib.hid (HB.out.trans (hb8.mono HB.out.size))
                          have HTH := Go.Lib.hid (show w8.there g5 (24 * bb + 6 * K) (#[.bool true, .string k2, .bool gx, .int .i64 ax, .int .i64 nx, .string s2] : Array Value).size from by rw [show 24 * bb + 6 * K = 6 * (4 * bb + K) by omega]; exact HD8.out.there (by omega))
                          have hgr := setCells_gr (enc6 (true, k2, gx, ax, nx, s2)) w8 g5 (24 * bb + 6 * K)
                          have HD9 := Go.Lib.hid (show TK (w8.setCells g5 (24 * bb + 6 * K) (enc6 (true, k2, gx, ax, nx, s2))) g5 (layN l turn (i + 1)) from by
                            have := HD8.out.set (q := 4 * bb + K) (by omega) (true, k2, gx, ax, nx, s2)
                            rw [show 6 * (4 * bb + K) = 24 * bb + 6 * K by omega] at this
                            rw [HLP.out, HPX.out]
                            exact this)
                          have HZ9 := Go.Lib.hid ((hgr.block g (row_lt HZ8.out) (fun e => by have := HG5.out; have := Option.some.inj e; omega)).trans HZ8.out)
                          have HB9 := Go.Lib.hid (HB8.out.grown hgr HB8.out.size (fun j e => by have := HG5.out; have := HG.out; have := Option.some.inj e; omega))
                          clear hv hb8 hix1 hix2 HX HD HZ HB HD8 HZ8 HB8 hgr r1 c0
                          unfold putAll
                          simp only [List.foldl, List.drop]
                          simp only [h80, h82]
                          clear h80 h82
                          go_simp
                          go_wp2_with (first
                            | (with_reducible show wpList _ _ _ (⟨none, _, _, _, _, _⟩ :: _) _ _; go_loud (refine wpList_store_mid rfl 30 (.tmp 82) (.tmp 80) rfl g5 (24 * bb + 6 * K) #[.bool true, .string k2, .bool gx, .int .i64 ax, .int .i64 nx, .string s2] rfl rfl HTH.out (by kernel_rfl) (six1 true k2 gx ax nx s2) ?_))
                            | fail)
                          go_roundw
                          case rel => exact ⟨i + 1, by omega, by omega, by go_num, HD9, HZ9, HB9⟩
                          case measure => simp only [intOf]; omega
                    · obtain rfl : s = 4 := by omega
                      have HD9 := Go.Lib.hid (show TK wr g5 (layN l turn (i + 1)) from by
                        rw [HLP.out]
                        unfold layPut
                        rw [layK_none HOC.out]
                        exact HD.out)
                      go_wp2_with fail
                      go_roundw
                      case rel => exact ⟨i + 1, by omega, by omega, by go_num, HD9, HZ, HB⟩
                      case measure => simp only [intOf]; omega
              | false =>
                have HLP := Go.Lib.hid (show layN l turn (i + 1) = layPut TT ff i (k2, gx, ax, nx, s2) by rw [HLN.out, HL1.out, HGD.out, HBF.out])
                have hbb := HFL.out
                generalize ff = bb at *
                clear HGD htl CTG COT
                as_aux_lemma =>
                  go_wp2_with fail
                  go_loopw [12] (fun sv wr => ∃ s : Nat, s ≤ 4 ∧ sv = .int .i64 (s : Int) ∧ Hid (∀ s', s' < s → (TT (4 * bb + (s' + i) % 4)).1 = true) ∧ Hid (wr.heap[g7]? = some (.cells #[.string k2, .bool gx, .int .i64 ax, .int .i64 nx, .string s2] 28)) ∧ Hid (TK wr g5 TT) ∧ Hid (wr.heap[g]? = some (.cells ZL.toArray 33)) ∧ Hid (Below w.heap.size w wr)) (fun sv _ => 4 - (intOf sv).toNat)
                  case atStart => exact ⟨0, by omega, rfl, Go.Lib.hid (fun s' h => absurd h (by omega)), HX11, HD11, HZ11, HB11⟩
                  case round =>
                    clear HX11 HD11 HZ11 HB11
                    obtain ⟨s, hs4, rfl, HOC, HX, HD, HZ, HB⟩ := hrel
                    by_cases hslt : s < 4
                    · have hsI : (s : Int) < 4 := by omega
                      obtain ⟨K, hK⟩ : ∃ K, K = (s + i) % 4 := ⟨_, rfl⟩
                      have hK4 : K < 4 := by omega
                      have r1 : ((s : Int) + (i : Int)).tmod 4 = (K : Int) := by rw [Int.tmod_eq_emod_of_nonneg (by omega)]; omega
                      have HK := Go.Lib.hid hK
                      obtain ⟨c0, -⟩ := HD.out.at hbb hK4
                      have hix1 := idxT g5 bb hbb
                      have hix2 := idxT2 g5 (24 * bb) K hK4
                      have HOC1 := Go.Lib.hid (fun (h : (TT (4 * bb + K)).1 = true) => show ∀ s', s' < s + 1 → (TT (4 * bb + (s' + i) % 4)).1 = true from fun s' hs' => by
                        rcases Nat.lt_or_ge s' s with h2 | h2
                        · exact HOC.out s' h2
                        · obtain rfl : s' = s := by omega
                          rw [← HK.out]; exact h)
                      have HPUT := Go.Lib.hid (fun (h : (TT (4 * bb + K)).1 = false) => show layPut TT bb i (k2, gx, ax, nx, s2) = setT TT (4 * bb + K) (true, (k2, gx, ax, nx, s2)) from by
                        unfold layPut
                        rw [layK_some hslt (by rw [← HK.out]; exact h) HOC.out, HK.out])
                      clear hK HOC
                      generalize hfr : (TT (4 * bb + K)).1 = fr at c0 HOC1 HPUT
                      clear hfr
                      cases fr with
                      | true =>
                        have HN := Go.Lib.hid (HOC1.out rfl)
                        go_wp2_with fail
                        exact ⟨⟨s + 1, by omega, by go_num, HN, HX, HD, HZ, HB⟩, by simp only [intOf]; omega⟩
                      | false =>
                        have HPX := Go.Lib.hid (HPUT.out rfl)
                        clear HPUT HOC1
                        go_upto_region 17 with (fail)
                        refine wp_region_head 6 (by decide) (by kernel_rfl) (VLz g5 g7 bb K k2 gx ax nx s2) (VLz_below g5 g7 bb K k2 gx ax nx s2) (by decide +kernel) (by rfl) [77, 78, 79, 80, 81, 82] (by rfl) ?_ ?_
                        · intro i' o' hin ho a' w8 hb8 hlen hg
                          obtain ⟨y0, y1, y2, y3, y4⟩ := row5 (row_kept HX.out hb8)
                          match i', hin, ho with
                          | 0, hin, ho =>
                            obtain rfl := Option.some.inj ho
                            have h11 := given_old hg 11 (by decide +kernel)
                            clear hg
                            exact st_yield ho (wanted_none rfl) (.int .i64 (bb : Int)) w8 (by simp [execOp, Act.eval, h11, go_sem]) ⟨_, rfl, Below.refl _ _, by rintro t' ⟨⟩; rfl⟩
                          | 1, hin, ho =>
                            obtain rfl := Option.some.inj ho
                            have h13 := given_old hg 13 (by decide +kernel)
                            clear hg
                            exact st_yield ho (wanted_none rfl) (.int .i64 (K : Int)) w8 (by simp [execOp, Act.eval, h13, go_sem]) ⟨_, rfl, Below.refl _ _, by rintro t' ⟨⟩; rfl⟩
                          | 2, hin, ho =>
                            obtain rfl := Option.some.inj ho
                            have h7 := given_old hg 7 (by decide +kernel)
                            clear hg
                            exact st_yield ho (wanted_none rfl) (.agg #[.string k2, .bool gx, .int .i64 ax, .int .i64 nx, .string s2]) w8 (by simp [execOp, Act.eval, h7, go_sem, y0, y1, y2, y3, y4]) ⟨_, rfl, Below.refl _ _, by rintro t' ⟨⟩; rfl⟩
                          | 3, hin, ho =>
                            obtain rfl := Option.some.inj ho
                            obtain ⟨_, h79, rfl⟩ := given_fed hg 79 (by decide +kernel)
                            clear hg
                            exact st_yield ho (wanted_none rfl) (.agg #[.bool true, .string k2, .bool gx, .int .i64 ax, .int .i64 nx, .string s2]) w8 (by simp [execOp, Act.eval, h79, build_rslot true k2 gx ax nx s2 w8]) ⟨_, rfl, Below.refl _ _, by rintro t' ⟨⟩; rfl⟩
                          | 4, hin, ho =>
                            obtain rfl := Option.some.inj ho
                            have h5 := given_old hg 5 (by decide +kernel)
                            obtain ⟨_, h77, rfl⟩ := given_fed hg 77 (by decide +kernel)
                            clear hg
                            exact st_yield ho (wanted_none rfl) (.pointer (some ⟨g5, 24 * bb, none⟩)) w8 (by simp [execOp, Act.eval, h5, h77, go_sem, hix1]) ⟨_, rfl, Below.refl _ _, by rintro t' ⟨⟩; rfl⟩
                          | 5, hin, ho =>
                            obtain rfl := Option.some.inj ho
                            obtain ⟨_, h81, rfl⟩ := given_fed hg 81 (by decide +kernel)
                            obtain ⟨_, h78, rfl⟩ := given_fed hg 78 (by decide +kernel)
                            clear hg
                            exact st_yield ho (wanted_none rfl) (.pointer (some ⟨g5, 24 * bb + 6 * K, none⟩)) w8 (by simp [execOp, Act.eval, h81, h78, go_sem, hix2]) ⟨_, rfl, Below.refl _ _, by rintro t' ⟨⟩; rfl⟩
                          | n + 6, hin, ho => omega
                        · intro f w8 hb8 hv
                          have h80 := hv 80 (by decide)
                          have h82 := hv 82 (by decide)
                          simp only [VLz] at h80 h82
                          have HD8 := Go.Lib.hid (HD.out.below hb8)
                          have HZ8 := Go.Lib.hid (row_kept HZ.out hb8)
                          have HB8 := Go.Lib.hid (HB.out.trans (hb8.mono HB.out.size))
                          have HTH := Go.Lib.hid (show w8.there g5 (24 * bb + 6 * K) (#[.bool true, .string k2, .bool gx, .int .i64 ax, .int .i64 nx, .string s2] : Array Value).size from by rw [show 24 * bb + 6 * K = 6 * (4 * bb + K) by omega]; exact HD8.out.there (by omega))
                          have hgr := setCells_gr (enc6 (true, k2, gx, ax, nx, s2)) w8 g5 (24 * bb + 6 * K)
                          have HD9 := Go.Lib.hid (show TK (w8.setCells g5 (24 * bb + 6 * K) (enc6 (true, k2, gx, ax, nx, s2))) g5 (layN l turn (i + 1)) from by
                            have := HD8.out.set (q := 4 * bb + K) (by omega) (true, k2, gx, ax, nx, s2)
                            rw [show 6 * (4 * bb + K) = 24 * bb + 6 * K by omega] at this
                            rw [HLP.out, HPX.out]
                            exact this)
                          have HZ9 := Go.Lib.hid ((hgr.block g (row_lt HZ8.out) (fun e => by have := HG5.out; have := Option.some.inj e; omega)).trans HZ8.out)
                          have HB9 := Go.Lib.hid (HB8.out.grown hgr HB8.out.size (fun j e => by have := HG5.out; have := HG.out; have := Option.some.inj e; omega))
                          clear hv hb8 hix1 hix2 HX HD HZ HB HD8 HZ8 HB8 hgr r1 c0
                          unfold putAll
                          simp only [List.foldl, List.drop]
                          simp only [h80, h82]
                          clear h80 h82
                          go_simp
                          go_wp2_with (first
                            | (with_reducible show wpList _ _ _ (⟨none, _, _, _, _, _⟩ :: _) _ _; go_loud (refine wpList_store_mid rfl 30 (.tmp 82) (.tmp 80) rfl g5 (24 * bb + 6 * K) #[.bool true, .string k2, .bool gx, .int .i64 ax, .int .i64 nx, .string s2] rfl rfl HTH.out (by kernel_rfl) (six1 true k2 gx ax nx s2) ?_))
                            | fail)
                          go_roundw
                          case rel => exact ⟨i + 1, by omega, by omega, by go_num, HD9, HZ9, HB9⟩
                          case measure => simp only [intOf]; omega
                    · obtain rfl : s = 4 := by omega
                      have HD9 := Go.Lib.hid (show TK wr g5 (layN l turn (i + 1)) from by
                        rw [HLP.out]
                        unfold layPut
                        rw [layK_none HOC.out]
                        exact HD.out)
                      go_wp2_with fail
                      go_roundw
                      case rel => exact ⟨i + 1, by omega, by omega, by go_num, HD9, HZ, HB⟩
                      case measure => simp only [intOf]; omega
            · have htlI : ¬ (i : Int) < (turn.length : Int) := by omega
              have HGD := Go.Lib.hid (show turn.getD i false = false from by rw [List.getD_eq_getElem?_getD, List.getElem?_eq_none (by omega)]; rfl)
              have HLP := Go.Lib.hid (show layN l turn (i + 1) = layPut TT ff i (k2, gx, ax, nx, s2) by rw [HLN.out, HL1.out, HGD.out, HBF.out])
              have hbb := HFL.out
              generalize ff = bb at *
              clear HGD htl CTG COT
              as_aux_lemma =>
                go_wp2_with fail
                go_loopw [12] (fun sv wr => ∃ s : Nat, s ≤ 4 ∧ sv = .int .i64 (s : Int) ∧ Hid (∀ s', s' < s → (TT (4 * bb + (s' + i) % 4)).1 = true) ∧ Hid (wr.heap[g7]? = some (.cells #[.string k2, .bool gx, .int .i64 ax, .int .i64 nx, .string s2] 28)) ∧ Hid (TK wr g5 TT) ∧ Hid (wr.heap[g]? = some (.cells ZL.toArray 33)) ∧ Hid (Below w.heap.size w wr)) (fun sv _ => 4 - (intOf sv).toNat)
                case atStart => exact ⟨0, by omega, rfl, Go.Lib.hid (fun s' h => absurd h (by omega)), HX11, HD11, HZ11, HB11⟩
                case round =>
                  clear HX11 HD11 HZ11 HB11
                  obtain ⟨s, hs4, rfl, HOC, HX, HD, HZ, HB⟩ := hrel
                  by_cases hslt : s < 4
                  · have hsI : (s : Int) < 4 := by omega
                    obtain ⟨K, hK⟩ : ∃ K, K = (s + i) % 4 := ⟨_, rfl⟩
                    have hK4 : K < 4 := by omega
                    have r1 : ((s : Int) + (i : Int)).tmod 4 = (K : Int) := by rw [Int.tmod_eq_emod_of_nonneg (by omega)]; omega
                    have HK := Go.Lib.hid hK
                    obtain ⟨c0, -⟩ := HD.out.at hbb hK4
                    have hix1 := idxT g5 bb hbb
                    have hix2 := idxT2 g5 (24 * bb) K hK4
                    have HOC1 := Go.Lib.hid (fun (h : (TT (4 * bb + K)).1 = true) => show ∀ s', s' < s + 1 → (TT (4 * bb + (s' + i) % 4)).1 = true from fun s' hs' => by
                      rcases Nat.lt_or_ge s' s with h2 | h2
                      · exact HOC.out s' h2
                      · obtain rfl : s' = s := by omega
                        rw [← HK.out]; exact h)
                    have HPUT := Go.Lib.hid (fun (h : (TT (4 * bb + K)).1 = false) => show layPut TT bb i (k2, gx, ax, nx, s2) = setT TT (4 * bb + K) (true, (k2, gx, ax, nx, s2)) from by
                      unfold layPut
                      rw [layK_some hslt (by rw [← HK.out]; exact h) HOC.out, HK.out])
                    clear hK HOC
                    generalize hfr : (TT (4 * bb + K)).1 = fr at c0 HOC1 HPUT
                    clear hfr
                    cases fr with
                    | true =>
                      have HN := Go.Lib.hid (HOC1.out rfl)
                      go_wp2_with fail
                      exact ⟨⟨s + 1, by omega, by go_num, HN, HX, HD, HZ, HB⟩, by simp only [intOf]; omega⟩
                    | false =>
                      have HPX := Go.Lib.hid (HPUT.out rfl)
                      clear HPUT HOC1
                      go_upto_region 17 with (fail)
                      refine wp_region_head 6 (by decide) (by kernel_rfl) (VLz g5 g7 bb K k2 gx ax nx s2) (VLz_below g5 g7 bb K k2 gx ax nx s2) (by decide +kernel) (by rfl) [77, 78, 79, 80, 81, 82] (by rfl) ?_ ?_
                      · intro i' o' hin ho a' w8 hb8 hlen hg
                        obtain ⟨y0, y1, y2, y3, y4⟩ := row5 (row_kept HX.out hb8)
                        match i', hin, ho with
                        | 0, hin, ho =>
                          obtain rfl := Option.some.inj ho
                          have h11 := given_old hg 11 (by decide +kernel)
                          clear hg
                          exact st_yield ho (wanted_none rfl) (.int .i64 (bb : Int)) w8 (by simp [execOp, Act.eval, h11, go_sem]) ⟨_, rfl, Below.refl _ _, by rintro t' ⟨⟩; rfl⟩
                        | 1, hin, ho =>
                          obtain rfl := Option.some.inj ho
                          have h13 := given_old hg 13 (by decide +kernel)
                          clear hg
                          exact st_yield ho (wanted_none rfl) (.int .i64 (K : Int)) w8 (by simp [execOp, Act.eval, h13, go_sem]) ⟨_, rfl, Below.refl _ _, by rintro t' ⟨⟩; rfl⟩
                        | 2, hin, ho =>
                          obtain rfl := Option.some.inj ho
                          have h7 := given_old hg 7 (by decide +kernel)
                          clear hg
                          exact st_yield ho (wanted_none rfl) (.agg #[.string k2, .bool gx, .int .i64 ax, .int .i64 nx, .string s2]) w8 (by simp [execOp, Act.eval, h7, go_sem, y0, y1, y2, y3, y4]) ⟨_, rfl, Below.refl _ _, by rintro t' ⟨⟩; rfl⟩
                        | 3, hin, ho =>
                          obtain rfl := Option.some.inj ho
                          obtain ⟨_, h79, rfl⟩ := given_fed hg 79 (by decide +kernel)
                          clear hg
                          exact st_yield ho (wanted_none rfl) (.agg #[.bool true, .string k2, .bool gx, .int .i64 ax, .int .i64 nx, .string s2]) w8 (by simp [execOp, Act.eval, h79, build_rslot true k2 gx ax nx s2 w8]) ⟨_, rfl, Below.refl _ _, by rintro t' ⟨⟩; rfl⟩
                        | 4, hin, ho =>
                          obtain rfl := Option.some.inj ho
                          have h5 := given_old hg 5 (by decide +kernel)
                          obtain ⟨_, h77, rfl⟩ := given_fed hg 77 (by decide +kernel)
                          clear hg
                          exact st_yield ho (wanted_none rfl) (.pointer (some ⟨g5, 24 * bb, none⟩)) w8 (by simp [execOp, Act.eval, h5, h77, go_sem, hix1]) ⟨_, rfl, Below.refl _ _, by rintro t' ⟨⟩; rfl⟩
                        | 5, hin, ho =>
                          obtain rfl := Option.some.inj ho
                          obtain ⟨_, h81, rfl⟩ := given_fed hg 81 (by decide +kernel)
                          obtain ⟨_, h78, rfl⟩ := given_fed hg 78 (by decide +kernel)
                          clear hg
                          exact st_yield ho (wanted_none rfl) (.pointer (some ⟨g5, 24 * bb + 6 * K, none⟩)) w8 (by simp [execOp, Act.eval, h81, h78, go_sem, hix2]) ⟨_, rfl, Below.refl _ _, by rintro t' ⟨⟩; rfl⟩
                        | n + 6, hin, ho => omega
                      · intro f w8 hb8 hv
                        have h80 := hv 80 (by decide)
                        have h82 := hv 82 (by decide)
                        simp only [VLz] at h80 h82
                        have HD8 := Go.Lib.hid (HD.out.below hb8)
                        have HZ8 := Go.Lib.hid (row_kept HZ.out hb8)
                        have HB8 := Go.Lib.hid (HB.out.trans (hb8.mono HB.out.size))
                        have HTH := Go.Lib.hid (show w8.there g5 (24 * bb + 6 * K) (#[.bool true, .string k2, .bool gx, .int .i64 ax, .int .i64 nx, .string s2] : Array Value).size from by rw [show 24 * bb + 6 * K = 6 * (4 * bb + K) by omega]; exact HD8.out.there (by omega))
                        have hgr := setCells_gr (enc6 (true, k2, gx, ax, nx, s2)) w8 g5 (24 * bb + 6 * K)
                        have HD9 := Go.Lib.hid (show TK (w8.setCells g5 (24 * bb + 6 * K) (enc6 (true, k2, gx, ax, nx, s2))) g5 (layN l turn (i + 1)) from by
                          have := HD8.out.set (q := 4 * bb + K) (by omega) (true, k2, gx, ax, nx, s2)
                          rw [show 6 * (4 * bb + K) = 24 * bb + 6 * K by omega] at this
                          rw [HLP.out, HPX.out]
                          exact this)
                        have HZ9 := Go.Lib.hid ((hgr.block g (row_lt HZ8.out) (fun e => by have := HG5.out; have := Option.some.inj e; omega)).trans HZ8.out)
                        have HB9 := Go.Lib.hid (HB8.out.grown hgr HB8.out.size (fun j e => by have := HG5.out; have := HG.out; have := Option.some.inj e; omega))
                        clear hv hb8 hix1 hix2 HX HD HZ HB HD8 HZ8 HB8 hgr r1 c0
                        unfold putAll
                        simp only [List.foldl, List.drop]
                        simp only [h80, h82]
                        clear h80 h82
                        go_simp
                        go_wp2_with (first
                          | (with_reducible show wpList _ _ _ (⟨none, _, _, _, _, _⟩ :: _) _ _; go_loud (refine wpList_store_mid rfl 30 (.tmp 82) (.tmp 80) rfl g5 (24 * bb + 6 * K) #[.bool true, .string k2, .bool gx, .int .i64 ax, .int .i64 nx, .string s2] rfl rfl HTH.out (by kernel_rfl) (six1 true k2 gx ax nx s2) ?_))
                          | fail)
                        go_roundw
                        case rel => exact ⟨i + 1, by omega, by omega, by go_num, HD9, HZ9, HB9⟩
                        case measure => simp only [intOf]; omega
                  · obtain rfl : s = 4 := by omega
                    have HD9 := Go.Lib.hid (show TK wr g5 (layN l turn (i + 1)) from by
                      rw [HLP.out]
                      unfold layPut
                      rw [layK_none HOC.out]
                      exact HD.out)
                    go_wp2_with fail
                    go_roundw
                    case rel => exact ⟨i + 1, by omega, by omega, by go_num, HD9, HZ, HB⟩
                    case measure => simp only [intOf]; omega
    · have hmin : min l.length 40 = i := by omega
      have hft : tabL (layN l turn i) 32 = FT := by rw [HFT.out, hmin]
      have HTR := Go.Lib.hid (HD.out.range)
      have HST := Go.Lib.hid (sizeTab (layN l turn i))
      have HTO := Go.Lib.hid (tabL_one (layN l turn i))
      have HLX := Go.Lib.hid (HLE.out (layN l turn i))
      rw [hft] at HTR HST HTO HLX
      clear hft hmin
      have hlor : ¬ (i : Int) < (l.length : Int) ∨ ¬ (i : Int) < 40 := by omega
      rcases hlor with hlI | hlI
      · go_wp2_with (first
          | (with_reducible show wpList _ _ _ (⟨some 83, _, _, _, _, _⟩ :: _) _ _; go_loud (refine wpList_load_mid rfl 33 (.tmp 5) rfl g5 0 rfl FT _ HTR.out Tryz.underlying33 rfl HST.out ?_))
          | (with_reducible show wpList _ _ _ (⟨none, Op.store 33 (.tmp 4) (.tmp 83), _, _, _, _⟩ :: _) _ _; go_loud (refine wpList_store_row rfl 33 (.tmp 4) (.tmp 83) rfl g FT.toArray rfl rfl 33 _ HZ.out (by rw [HST.out, List.size_toArray]) (by rw [List.size_toArray, List.size_toArray]; exact HLX.out) HTO.out ?_))
          | fail)
        exact ret_llay_at rfl (setRow_heap _ _ _ _ _ (0, 0) HZ.out) HST.out (setRow_below _ HB.out HG.out)
      · by_cases hl2 : (i : Int) < (l.length : Int)
        · go_wp2_with (first
            | (with_reducible show wpList _ _ _ (⟨some 83, _, _, _, _, _⟩ :: _) _ _; go_loud (refine wpList_load_mid rfl 33 (.tmp 5) rfl g5 0 rfl FT _ HTR.out Tryz.underlying33 rfl HST.out ?_))
            | (with_reducible show wpList _ _ _ (⟨none, Op.store 33 (.tmp 4) (.tmp 83), _, _, _, _⟩ :: _) _ _; go_loud (refine wpList_store_row rfl 33 (.tmp 4) (.tmp 83) rfl g FT.toArray rfl rfl 33 _ HZ.out (by rw [HST.out, List.size_toArray]) (by rw [List.size_toArray, List.size_toArray]; exact HLX.out) HTO.out ?_))
            | fail)
          exact ret_llay_at rfl (setRow_heap _ _ _ _ _ (0, 0) HZ.out) HST.out (setRow_below _ HB.out HG.out)
        · go_wp2_with (first
            | (with_reducible show wpList _ _ _ (⟨some 83, _, _, _, _, _⟩ :: _) _ _; go_loud (refine wpList_load_mid rfl 33 (.tmp 5) rfl g5 0 rfl FT _ HTR.out Tryz.underlying33 rfl HST.out ?_))
            | (with_reducible show wpList _ _ _ (⟨none, Op.store 33 (.tmp 4) (.tmp 83), _, _, _, _⟩ :: _) _ _; go_loud (refine wpList_store_row rfl 33 (.tmp 4) (.tmp 83) rfl g FT.toArray rfl rfl 33 _ HZ.out (by rw [HST.out, List.size_toArray]) (by rw [List.size_toArray, List.size_toArray]; exact HLX.out) HTO.out ?_))
            | fail)
          exact ret_llay_at rfl (setRow_heap _ _ _ _ _ (0, 0) HZ.out) HST.out (setRow_below _ HB.out HG.out)
end Go.Proofs.YthbnecdeebmlhaaGreat

namespace Go.Proofs.YthbnecdeebmlhaaGreat
open Go.RowKit

def xaR : RecT := (⟨#[97]⟩, true, 0, 0, ⟨#[]⟩)
theorem xa_cut : cutR xaR = xaR := by decide +kernel
theorem xa_may : mayT xaR = true := by decide +kernel
theorem xa_ok : RecOk xaR := by unfold xaR RecOk; decide
theorem xa_len : (recT xaR).length = 3 := by decide +kernel
theorem layK_zero (b i : Nat) : layK zeroT b i = some 0 := layK_some (by decide) rfl (fun s' h => absurd h (by omega))
/-- One record, laid into the empty table. -/
theorem lay_zero (i : Nat) {x : RecT} (t : Bool) (hm : mayT x = true) : lay1 zeroT i x t = setT zeroT (4 * layB x t + (0 + i) % 4) (true, x) := by
  have hr : recsT zeroT 32 = [] := by decide +kernel
  unfold lay1
  rw [hr, hm, if_neg (by simp [newestR, newestK, findK])]
  unfold layPut
  rw [layK_zero]
theorem recs_one {TT : TabT} {x : RecT} {q : Nat} (h : TT = setT zeroT q (true, x)) (hq : q < 32) : recsT TT 32 = [x] := by
  have hr : recsT zeroT 32 = [] := by decide +kernel
  have := (recs_set (TT := zeroT) (q := q) (x := x) rfl 32).1 hq
  rw [← h, hr, List.nil_append] at this
  exact List.perm_singleton.1 this
theorem layA : layN [xaR] [] 1 = setT zeroT (4 * layB xaR false + (0 + 0) % 4) (true, xaR) := by
  show lay1 zeroT 0 (cutR xaR) false = _
  rw [xa_cut, lay_zero 0 false xa_may]
theorem layA_ok : LayOk (layN [xaR] [] 1) := layN_ok [] (fun x hx => by rw [List.mem_singleton.1 hx]; exact xa_ok) 1
theorem layA_recs : recsT (layN [xaR] [] 1) 32 = [xaR] := recs_one layA (by have := layB_lt xaR false; omega)
theorem layA_len : (tabB (layN [xaR] [] 1)).length = 9 := by
  unfold tabB bodyB
  rw [List.length_append, headB_len, layA_recs]
  unfold entB
  simp [xa_len]
def badT : TabT := setT zeroT 0 (true, nullR)
theorem bad_no : okTo badT 32 = false := by
  refine okTo_bad (q := 0) ?_ (by decide)
  unfold okSlot badT
  rw [setT_new]
  simp only [if_true]
  rw [show mayT nullR = false by decide +kernel]
  rfl
theorem bad_size : ∀ q, q < 32 → (badT q).2.1.size ≤ 1000 ∧ (badT q).2.2.2.2.2.size ≤ 1000 := by
  intro q _
  have : (badT q).2 = nullR := by
    unfold badT setT
    split <;> rfl
  rw [this]
  exact recOk_null_size
set_option maxRecDepth 100000 in
theorem bad_cells : (tabL zeroT 32).toArray.setIfInBounds 0 (.bool true) = (tabL badT 32).toArray := by rfl
theorem zeroB_len : (tabB zeroT).length = 4 := by decide +kernel
theorem one_of_perm {l : List RecT} {x : RecT} (h : l.Perm [x]) : l = [x] := List.perm_singleton.1 h

def VBg (TL ZL : List Value) (BL : Array Value) (ZB : List UInt8) (a2 : Option Addr) (c2 b8 o8 c8 : Nat) : Nat → World → Value → Prop
  | 0, _, v => v = .bool true
  | 30, _, v => v = .agg TL.toArray
  | 31, _, v => v = .bool true
  | 32, _, v => v = .bool true
  | 33, _, v => v = .agg BL
  | 34, _, v => v = .bool false
  | 35, _, v => v = .bool true
  | 36, _, v => v = .bool true
  | 37, _, v => v = .bool true
  | 38, _, v => v = .slice a2 9 c2
  | 39, _, v => v = .int .i64 9
  | 40, _, v => v = .bool true
  | 41, _, v => v = .bool true
  | 42, _, v => v = .bool true
  | 43, _, v => v = .int .i64 0
  | 44, _, v => v = .bool true
  | 45, _, v => v = .bool true
  | 46, _, v => v = .bool true
  | 47, _, v => v = .agg TL.toArray
  | 48, _, v => v = .agg TL.toArray
  | 49, _, v => v = .agg TL.toArray
  | 50, _, v => v = .agg TL.toArray
  | 51, _, v => v = .bool true
  | 52, _, v => v = .bool true
  | 53, _, v => v = .bool true
  | 54, _, v => v = .int .i64 8
  | 55, _, v => v = .bool true
  | 56, _, v => v = .bool true
  | 57, _, v => v = .bool true
  | 58, _, v => v = .slice (some ⟨b8, o8, none⟩) 1 c8
  | 59, _, v => v = .int .i64 1
  | 60, _, v => v = .bool true
  | 61, _, v => v = .bool true
  | 62, _, v => v = .bool true
  | 63, _, v => v = .slice (some ⟨b8, o8, none⟩) 1 c8
  | 64, _, v => v = .pointer (some ⟨b8, o8, none⟩)
  | 65, _, v => v = .pointer (some ⟨b8, o8, none⟩)
  | 66, _, v => v = .string ⟨#[97]⟩
  | 67, _, v => v = .bool true
  | 68, _, v => v = .bool true
  | 69, _, v => v = .bool true
  | 70, _, v => v = .agg ZL.toArray
  | 71, w, v => RB w v ZB
  | 72, _, v => v = .int .i64 4
  | 73, _, v => v = .bool true
  | 74, _, v => v = .bool true
  | _, _, _ => True

theorem VBg_below (TL ZL : List Value) (BL : Array Value) (ZB : List UInt8) (a2 : Option Addr) (c2 b8 o8 c8 : Nat) : ∀ (i : Nat) (w w' : World) (v : Value), VBg TL ZL BL ZB a2 c2 b8 o8 c8 i w v → Below w.heap.size w w' → VBg TL ZL BL ZB a2 c2 b8 o8 c8 i w' v := by
  intro i w w' v h hb
  unfold VBg at h ⊢
  split at h <;> first | exact h | trivial | exact RB.below h hb | exact Own.below h hb | exact OwnV.below h hb | exact OwnRec.below h hb | exact Lay.R.below h hb

set_option maxHeartbeats 16000000 in
set_option maxRecDepth 100000 in
theorem begun19_c (w : World) : Calls Tryz.prog 64 #[] w fun e w' => e = .returned (.bool true) ∧ Below w.heap.size w w' := by
  have hz := zero_tabZ
  have hbz := build_zero
  have HZS := Go.Lib.hid (sizeTabO zeroT)
  have HZL := Go.Lib.hid (tabL_one zeroT)
  have CL := Go.Lib.hid fun W (h : RS W (.slice (some ⟨w.heap.size, 0, none⟩) 1 1) [xaR]) => llay_c (.slice (some ⟨w.heap.size, 0, none⟩) 1 1) (.slice none 0 0) [xaR] [] W h ⟨none, 0, rfl, Nat.le_refl _, by simp [maxLen], fun _ => rfl, fun h => absurd rfl h⟩ (fun x hx => by rw [List.mem_singleton.1 hx]; exact xa_ok)
  rw [show min [xaR].length 40 = 1 from rfl] at CL
  have HLEN := Go.Lib.hid layA_len
  have HREC := Go.Lib.hid layA_recs
  have HOK := Go.Lib.hid layA_ok
  generalize layN [xaR] [] 1 = TT at *
  have COF := Go.Lib.hid fun W => lof_c TT W
  have CE := fun W => oencode_c TT W HOK.out.sizes HOK.out.recs
  rw [if_pos HOK.out.ok] at CE
  have CE := Go.Lib.hid CE
  have CD := fun v W (h : RB W v (tabB TT)) => odecode_c v (tabB TT) W h
  rw [decT_put HOK.out.ok HOK.out.recs, show outD (some (cutT TT 32)) = .tuple #[.agg (tabL TT 32).toArray, .int .i64 0] from by show Value.tuple _ = _; rw [tabL_congr (UU := TT) 32 (fun q hq => cutT_old TT hq)]] at CD
  have CD := Go.Lib.hid CD
  have CD3 := fun v W (h : RB W v [0, 0, 0]) => odecode_c v [0, 0, 0] W h
  rw [decT_none (by decide), show outD none = .tuple #[.agg (tabL zeroT 32).toArray, .int .i64 8] from rfl] at CD3
  have CD3 := Go.Lib.hid CD3
  have CLS := Go.Lib.hid fun W => olist_c TT W HOK.out.sizes
  have CM := fun W => omay_c TT W HOK.out.sizes
  rw [HOK.out.ok] at CM
  have CM := Go.Lib.hid CM
  have CMB := fun W => omay_c badT W bad_size
  rw [bad_no] at CMB
  have CMB := Go.Lib.hid CMB
  have CB := Go.Lib.hid fun W => lback_c TT W
  have CQ := Go.Lib.hid fun W => leq_c TT W
  have CZ := fun W => oencode_c zeroT W zero_ok.sizes zero_ok.recs
  rw [if_pos zero_ok.ok] at CZ
  have CZ := Go.Lib.hid CZ
  have HZB := Go.Lib.hid zeroB_len
  have HST := Go.Lib.hid (sizeTabO TT)
  have HTO := Go.Lib.hid (tabL_one TT)
  have HLE := Go.Lib.hid (show (tabL zeroT 32).length = (tabL TT 32).length from by rw [tabL_len, tabL_len])
  have HBC := Go.Lib.hid bad_cells
  have HZ0 := Go.Lib.hid (show (tabL zeroT 32).toArray[0]? = some (.bool false) from rfl)
  have HSB := Go.Lib.hid (show (Tryz.prog.info? 43).map (·.size) = some (tabL badT 32).toArray.size from by rw [sizeTabO badT, List.size_toArray])
  generalize (tabL badT 32).toArray = BL at *
  generalize tabB zeroT = ZB at *
  generalize tabL zeroT 32 = ZL at *
  generalize tabL TT 32 = TL at *
  have hb1 := below_one w (.cells #[.string ⟨#[97]⟩, .bool true, .int .i64 0, .int .i64 0, .string ⟨#[]⟩] 28)
  have HR1 := Go.Lib.hid (RS.one w xaR)
  have HB1 := Go.Lib.hid hb1
  unfold xaR at HR1
  simp only [] at HR1
  clear hb1
  go_enter Tryz.func64, Tryz.ntmps64
  go_wp2_with fail
  refine (CL.out _ HR1.out).mono ?_
  rintro e w2 ⟨rfl, hc⟩
  have HB2 := Go.Lib.hid (HB1.out.trans (hc.mono HB1.out.size))
  clear hc CL HR1 HB1
  go_wp2_with fail
  refine (COF.out _).mono ?_
  rintro e w3 ⟨rfl, hc⟩
  have HB3 := Go.Lib.hid (HB2.out.trans (hc.mono HB2.out.size))
  clear hc COF HB2
  have hb4 := below_one w3 (.cells ZL.toArray 43)
  have HZ4 := Go.Lib.hid (heap_alloc_new w3 (.cells ZL.toArray 43))
  have HX4 := Go.Lib.hid (setRow_heap _ w3.heap.size _ TL.toArray 43 (0, 0) HZ4.out)
  have HB4 := Go.Lib.hid (HB3.out.trans ((setRow_below TL.toArray hb4 (Nat.le_refl _)).mono HB3.out.size))
  clear hb4 HB3
  go_upto_region 2 with (first
    | (with_reducible show wpList _ _ _ (⟨none, Op.store 43 (.tmp 1) (.tmp 12), _, _, _, _⟩ :: _) _ _; go_loud (refine wpList_store_row rfl 43 (.tmp 1) (.tmp 12) rfl w3.heap.size TL.toArray rfl rfl 43 _ HZ4.out (by rw [HST.out, List.size_toArray]) (by rw [List.size_toArray, List.size_toArray]; exact HLE.out) HTO.out ?_))
    | fail)
  obtain ⟨g1, hg1⟩ : ∃ g1, g1 = w3.heap.size := ⟨_, rfl⟩
  rw [← hg1] at HX4 HB4 ⊢
  clear hg1 HZ4
  generalize (w3.alloc (.cells ZL.toArray 43)).setRow g1 TL.toArray = w4 at *
  go_wp2_with (first
    | (with_reducible show wpList _ _ _ (⟨some 13, _, _, _, _, _⟩ :: _) _ _; go_loud (refine wpList_load_row rfl 43 (.tmp 1) rfl g1 rfl 43 TL.toArray (0, 0) _ HX4.out Tryz.underlying43 rfl (by rw [HST.out, List.size_toArray]) ?_))
    | fail)
  refine (CE.out _).mono ?_
  rintro e w5 ⟨v2, rfl, ho, hc⟩
  have HX5 := Go.Lib.hid (row_kept HX4.out hc)
  have HB5 := Go.Lib.hid (HB4.out.trans (hc.mono HB4.out.size))
  have HO5 := Go.Lib.hid ho.rb
  obtain ⟨a2, c2, rfl, -⟩ := id ho.rb
  rw [HLEN.out] at HO5 ⊢
  clear ho hc CE HX4 HB4
  go_wp2_with fail
  refine (CD.out _ _ HO5.out).mono ?_
  rintro e w6 ⟨rfl, hc⟩
  have HX6 := Go.Lib.hid (row_kept HX5.out hc)
  have HB6 := Go.Lib.hid (HB5.out.trans (hc.mono HB5.out.size))
  have hb7 := below_one w6 (.cells ZL.toArray 43)
  have HZ7 := Go.Lib.hid (heap_alloc_new w6 (.cells ZL.toArray 43))
  have hb8 := setRow_below TL.toArray hb7 (Nat.le_refl _)
  have HX7 := Go.Lib.hid (setRow_heap _ w6.heap.size _ TL.toArray 43 (0, 0) HZ7.out)
  have HX1 := Go.Lib.hid (row_kept HX6.out hb8)
  have HB7 := Go.Lib.hid (HB6.out.trans (hb8.mono HB6.out.size))
  clear hc hb7 hb8 CD HX5 HB5 HO5 HX6 HB6
  go_upto_region 4 with (first
    | (with_reducible show wpList _ _ _ (⟨none, Op.store 43 (.tmp 3) (.tmp 18), _, _, _, _⟩ :: _) _ _; go_loud (refine wpList_store_row rfl 43 (.tmp 3) (.tmp 18) rfl w6.heap.size TL.toArray rfl rfl 43 _ HZ7.out (by rw [HST.out, List.size_toArray]) (by rw [List.size_toArray, List.size_toArray]; exact HLE.out) HTO.out ?_))
    | fail)
  obtain ⟨g3, hg3⟩ : ∃ g3, g3 = w6.heap.size := ⟨_, rfl⟩
  rw [← hg3] at HX7 HB7 HX1 ⊢
  clear hg3 HZ7
  generalize (w6.alloc (.cells ZL.toArray 43)).setRow g3 TL.toArray = w7 at *
  have hb8 := below_one w7 (.cells #[.int .u8 0, .int .u8 0, .int .u8 0] 5)
  have HO8 := Go.Lib.hid (RB.lits w7 5 (0, 0) [0, 0, 0] #[.int .u8 0, .int .u8 0, .int .u8 0] 3 rfl rfl (by decide))
  have HX1 := Go.Lib.hid (row_kept HX1.out hb8)
  have HX3 := Go.Lib.hid (row_kept HX7.out hb8)
  have HB8 := Go.Lib.hid (HB7.out.trans (hb8.mono HB7.out.size))
  clear hb8 HX7 HB7
  go_wp2_with fail
  refine (CD3.out _ _ HO8.out).mono ?_
  rintro e w9 ⟨rfl, hc⟩
  have HX1 := Go.Lib.hid (row_kept HX1.out hc)
  have HX3 := Go.Lib.hid (row_kept HX3.out hc)
  have HB9 := Go.Lib.hid (HB8.out.trans (hc.mono HB8.out.size))
  have hb10 := below_one w9 (.cells ZL.toArray 43)
  have HZ10 := Go.Lib.hid (heap_alloc_new w9 (.cells ZL.toArray 43))
  have hb11 := setRow_below ZL.toArray hb10 (Nat.le_refl _)
  have HX1 := Go.Lib.hid (row_kept HX1.out hb11)
  have HX3 := Go.Lib.hid (row_kept HX3.out hb11)
  have HB11 := Go.Lib.hid (HB9.out.trans (hb11.mono HB9.out.size))
  clear hc hb10 hb11 CD3 HO8 HB8 HB9
  go_upto_region 5 with (first
    | (with_reducible show wpList _ _ _ (⟨none, Op.store 43 (.tmp 5) (.tmp 23), _, _, _, _⟩ :: _) _ _; go_loud (refine wpList_store_row rfl 43 (.tmp 5) (.tmp 23) rfl w9.heap.size ZL.toArray rfl rfl 43 _ HZ10.out (by rw [HZS.out, List.size_toArray]) rfl HZL.out ?_))
    | fail)
  clear HZ10
  generalize (w9.alloc (.cells ZL.toArray 43)).setRow w9.heap.size ZL.toArray = w11 at *
  have HG7 := Go.Lib.hid (show g1 < w11.heap.size ∧ g3 < w11.heap.size ∧ w.heap.size ≤ w11.heap.size from ⟨row_lt HX1.out, row_lt HX3.out, HB11.out.size⟩)
  have hb12 := below_one w11 (.cells ZL.toArray 43)
  have HZ12 := Go.Lib.hid (heap_alloc_new w11 (.cells ZL.toArray 43))
  have HX1 := Go.Lib.hid (row_kept HX1.out hb12)
  have HX3 := Go.Lib.hid (row_kept HX3.out hb12)
  have HB12 := Go.Lib.hid (HB11.out.trans (hb12.mono HB11.out.size))
  clear hb12 HB11
  go_upto_region 6 with (fail)
  obtain ⟨g7, hg7⟩ : ∃ g7, g7 = w11.heap.size := ⟨_, rfl⟩
  rw [← hg7] at HZ12 HG7 ⊢
  clear hg7
  generalize w11.alloc (.cells ZL.toArray 43) = w12 at *
  have hix1 := idxO g7 0 (by decide)
  have hix2 := idxO2 g7 0 0 (by decide)
  have hc0 : w12.cell? ⟨g7, 0, none⟩ = some (.bool false) := by rw [cell_of_row w12 g7 0 _ _ _ HZ12.out]; exact HZ0.out
  have hf0 := frozen_of_row w12 g7 0 _ _ HZ12.out
  have HW := Go.Lib.hid (show w12.setCell ⟨g7, 0, none⟩ (.bool true) = w12.setRow g7 BL from by rw [setCell_eq_setRow w12 g7 0 _ _ (0, 0) _ HZ12.out, HBC.out])
  have HX7 := Go.Lib.hid (setRow_heap _ g7 _ BL 43 (0, 0) HZ12.out)
  have HX1 := Go.Lib.hid ((setRow_other w12 g7 g1 BL (by have := HG7.out; omega)).trans HX1.out)
  have HX3 := Go.Lib.hid ((setRow_other w12 g7 g3 BL (by have := HG7.out; omega)).trans HX3.out)
  have HB13 := Go.Lib.hid (setRow_below BL HB12.out HG7.out.2.2)
  go_upto_region 7 with (fail)
  rw [HW.out]
  clear hix1 hix2 hc0 hf0 HW HZ12 HB12 HG7 hz
  generalize w12.setRow g7 BL = w13 at *
  go_wp2_with (first
    | (with_reducible show wpList _ _ _ (⟨some 28, _, _, _, _, _⟩ :: _) _ _; go_loud (refine wpList_load_row rfl 43 (.tmp 1) rfl g1 rfl 43 TL.toArray (0, 0) _ HX1.out Tryz.underlying43 rfl (by rw [HST.out, List.size_toArray]) ?_))
    | fail)
  refine (CLS.out _).mono ?_
  rintro e w14 ⟨v8, l8, rfl, hp, -, ho, hc⟩
  rw [HREC.out] at hp
  obtain rfl := one_of_perm hp
  have hrs := ho.rs
  obtain ⟨a8, c8, rfl, -⟩ := hrs.form
  obtain ⟨b8, o8, rfl, -⟩ := hrs.at 0 (by decide)
  have HC8 := Go.Lib.hid (fun W (hb : Below w14.heap.size w14 W) => show W.cell? ⟨b8, o8, none⟩ = some (.string ⟨#[97]⟩) ∧ True from by
    obtain ⟨b', o', he, -, -, z0, -⟩ := (hrs.below hb).at 0 (by decide)
    cases he
    exact ⟨by simpa [xaR] using z0, trivial⟩)
  have HX1 := Go.Lib.hid (row_kept HX1.out hc)
  have HX3 := Go.Lib.hid (row_kept HX3.out hc)
  have HX7 := Go.Lib.hid (row_kept HX7.out hc)
  have HB14 := Go.Lib.hid (HB13.out.trans (hc.mono HB13.out.size))
  have hix := run_idx5 b8 o8 1 c8 0 (by decide)
  rw [Nat.zero_mul, Nat.add_zero] at hix
  have ha : (ByteArray.toList ⟨#[97]⟩ == ByteArray.toList ⟨#[97]⟩) = true := by simp
  clear hp ho hrs hc CLS HB13
  go_upto_region 8 with (fail)
  refine wp_region_each (by kernel_rfl) (VBg TL ZL BL ZB a2 c2 b8 o8 c8) (VBg_below TL ZL BL ZB a2 c2 b8 o8 c8) (by decide +kernel) (by decide +kernel) (by rfl) [30, 31, 32, 33, 34, 35, 36, 37, 38, 39, 40, 41, 42, 43, 44, 45, 46, 47, 48, 49, 50, 51, 52, 53, 54, 55, 56, 57, 58, 59, 60, 61, 62, 63, 64, 65, 66, 67, 68, 69, 70, 71, 72, 73, 74, 0] (by rfl) ?_ ?_
  · intro i o ho a w6 hb6 hlen hg
    obtain ⟨z0, -⟩ := HC8.out w6 hb6
    match i, ho with
    | 0, ho =>
      obtain rfl := Option.some.inj ho
      have h1 := given_old hg 1 (by decide +kernel)
      clear hg
      exact st_list ho (wanted_none rfl) fun Q' hQ => wpList_load_row rfl 43 (.tmp 1) rfl g1 (by simp [Act.eval, h1]) 43 TL.toArray (0, 0) _ (row_kept HX1.out hb6) Tryz.underlying43 rfl (by rw [HST.out, List.size_toArray]) (wpList_nil (hQ _ _ ⟨_, rfl, Below.refl _ _, by rintro t' ⟨⟩; rfl⟩))
    | 1, ho =>
      obtain rfl := Option.some.inj ho
      obtain ⟨_, h30, rfl⟩ := given_fed hg 30 (by decide +kernel)
      clear hg
      exact st_enter (w1 := w6) ho (wanted_none rfl) 42 #[.agg TL.toArray] (by simp [execOp, Act.eval, h30, resolve, go_sem]) ((CM.out w6).mono (by rintro e w7 ⟨rfl, hb7⟩; exact ⟨_, rfl, _, rfl, hb7, by rintro t' ⟨⟩; rfl⟩))
    | 2, ho =>
      obtain rfl := Option.some.inj ho
      obtain ⟨_, h31, rfl⟩ := given_fed hg 31 (by decide +kernel)
      clear hg
      exact st_yield ho (wanted_none rfl) (.bool true) w6 (by simp [execOp, Act.eval, h31, go_sem]) ⟨_, rfl, Below.refl _ _, by rintro t' ⟨⟩; rfl⟩
    | 3, ho =>
      obtain rfl := Option.some.inj ho
      have h7 := given_old hg 7 (by decide +kernel)
      obtain ⟨_, h32, rfl⟩ := given_fed hg 32 (by decide +kernel)
      clear hg
      exact st_list ho (wanted_some rfl rfl h32 rfl) fun Q' hQ => wpList_met (wanted_some rfl rfl h32 rfl) (wpList_load_row rfl 43 (.tmp 7) rfl g7 (by simp [Act.eval, h7]) 43 BL (0, 0) _ (row_kept HX7.out hb6) Tryz.underlying43 rfl HSB.out (wpList_nil (hQ _ _ ⟨_, rfl, Below.refl _ _, by rintro t' ⟨⟩; rfl⟩)))
    | 4, ho =>
      obtain rfl := Option.some.inj ho
      obtain ⟨_, h33, rfl⟩ := given_fed hg 33 (by decide +kernel)
      obtain ⟨_, h32, rfl⟩ := given_fed hg 32 (by decide +kernel)
      clear hg
      exact st_enter (w1 := w6) ho (wanted_some rfl rfl h32 rfl) 42 #[.agg BL] (by simp [execOp, Act.eval, h33, resolve, go_sem]) ((CMB.out w6).mono (by rintro e w7 ⟨rfl, hb7⟩; exact ⟨_, rfl, _, rfl, hb7, by rintro t' ⟨⟩; rfl⟩))
    | 5, ho =>
      obtain rfl := Option.some.inj ho
      obtain ⟨_, h34, rfl⟩ := given_fed hg 34 (by decide +kernel)
      obtain ⟨_, h32, rfl⟩ := given_fed hg 32 (by decide +kernel)
      clear hg
      exact st_yield ho (wanted_some rfl rfl h32 rfl) (.bool true) w6 (by simp [execOp, Act.eval, h34, go_sem]) ⟨_, rfl, Below.refl _ _, by rintro t' ⟨⟩; rfl⟩
    | 6, ho =>
      obtain rfl := Option.some.inj ho
      obtain ⟨_, h32, rfl⟩ := given_fed hg 32 (by decide +kernel)
      obtain ⟨_, h35, rfl⟩ := given_fed hg 35 (by decide +kernel)
      clear hg
      exact st_yield ho (wanted_none rfl) (.bool true) w6 (by simp [execOp, Act.eval, h32, h35, go_sem]) ⟨_, rfl, Below.refl _ _, by rintro t' ⟨⟩; rfl⟩
    | 7, ho =>
      obtain rfl := Option.some.inj ho
      obtain ⟨_, h36, rfl⟩ := given_fed hg 36 (by decide +kernel)
      clear hg
      exact st_yield ho (wanted_none rfl) (.bool true) w6 (by simp [execOp, Act.eval, h36, go_sem]) ⟨_, rfl, Below.refl _ _, by rintro t' ⟨⟩; rfl⟩
    | 8, ho =>
      obtain rfl := Option.some.inj ho
      have h2 := given_old hg 2 (by decide +kernel)
      obtain ⟨_, h37, rfl⟩ := given_fed hg 37 (by decide +kernel)
      clear hg
      exact st_yield ho (wanted_some rfl rfl h37 rfl) (.slice a2 9 c2) w6 (by simp [execOp, Act.eval, h2, go_sem]) ⟨_, rfl, Below.refl _ _, by rintro t' ⟨⟩; rfl⟩
    | 9, ho =>
      obtain rfl := Option.some.inj ho
      obtain ⟨_, h38, rfl⟩ := given_fed hg 38 (by decide +kernel)
      obtain ⟨_, h37, rfl⟩ := given_fed hg 37 (by decide +kernel)
      clear hg
      exact st_yield ho (wanted_some rfl rfl h37 rfl) (.int .i64 9) w6 (by simp [execOp, Act.eval, h38, go_sem, resolve]) ⟨_, rfl, Below.refl _ _, by rintro t' ⟨⟩; rfl⟩
    | 10, ho =>
      obtain rfl := Option.some.inj ho
      obtain ⟨_, h39, rfl⟩ := given_fed hg 39 (by decide +kernel)
      obtain ⟨_, h37, rfl⟩ := given_fed hg 37 (by decide +kernel)
      clear hg
      exact st_yield ho (wanted_some rfl rfl h37 rfl) (.bool true) w6 (by simp [execOp, Act.eval, h39, go_sem]) ⟨_, rfl, Below.refl _ _, by rintro t' ⟨⟩; rfl⟩
    | 11, ho =>
      obtain rfl := Option.some.inj ho
      obtain ⟨_, h37, rfl⟩ := given_fed hg 37 (by decide +kernel)
      obtain ⟨_, h40, rfl⟩ := given_fed hg 40 (by decide +kernel)
      clear hg
      exact st_yield ho (wanted_none rfl) (.bool true) w6 (by simp [execOp, Act.eval, h37, h40, go_sem]) ⟨_, rfl, Below.refl _ _, by rintro t' ⟨⟩; rfl⟩
    | 12, ho =>
      obtain rfl := Option.some.inj ho
      obtain ⟨_, h41, rfl⟩ := given_fed hg 41 (by decide +kernel)
      clear hg
      exact st_yield ho (wanted_none rfl) (.bool true) w6 (by simp [execOp, Act.eval, h41, go_sem]) ⟨_, rfl, Below.refl _ _, by rintro t' ⟨⟩; rfl⟩
    | 13, ho =>
      obtain rfl := Option.some.inj ho
      have h4 := given_old hg 4 (by decide +kernel)
      obtain ⟨_, h42, rfl⟩ := given_fed hg 42 (by decide +kernel)
      clear hg
      exact st_yield ho (wanted_some rfl rfl h42 rfl) (.int .i64 0) w6 (by simp [execOp, Act.eval, h4, go_sem]) ⟨_, rfl, Below.refl _ _, by rintro t' ⟨⟩; rfl⟩
    | 14, ho =>
      obtain rfl := Option.some.inj ho
      obtain ⟨_, h43, rfl⟩ := given_fed hg 43 (by decide +kernel)
      obtain ⟨_, h42, rfl⟩ := given_fed hg 42 (by decide +kernel)
      clear hg
      exact st_yield ho (wanted_some rfl rfl h42 rfl) (.bool true) w6 (by simp [execOp, Act.eval, h43, go_sem]) ⟨_, rfl, Below.refl _ _, by rintro t' ⟨⟩; rfl⟩
    | 15, ho =>
      obtain rfl := Option.some.inj ho
      obtain ⟨_, h42, rfl⟩ := given_fed hg 42 (by decide +kernel)
      obtain ⟨_, h44, rfl⟩ := given_fed hg 44 (by decide +kernel)
      clear hg
      exact st_yield ho (wanted_none rfl) (.bool true) w6 (by simp [execOp, Act.eval, h42, h44, go_sem]) ⟨_, rfl, Below.refl _ _, by rintro t' ⟨⟩; rfl⟩
    | 16, ho =>
      obtain rfl := Option.some.inj ho
      obtain ⟨_, h45, rfl⟩ := given_fed hg 45 (by decide +kernel)
      clear hg
      exact st_yield ho (wanted_none rfl) (.bool true) w6 (by simp [execOp, Act.eval, h45, go_sem]) ⟨_, rfl, Below.refl _ _, by rintro t' ⟨⟩; rfl⟩
    | 17, ho =>
      obtain rfl := Option.some.inj ho
      have h3 := given_old hg 3 (by decide +kernel)
      obtain ⟨_, h46, rfl⟩ := given_fed hg 46 (by decide +kernel)
      clear hg
      exact st_list ho (wanted_some rfl rfl h46 rfl) fun Q' hQ => wpList_met (wanted_some rfl rfl h46 rfl) (wpList_load_row rfl 43 (.tmp 3) rfl g3 (by simp [Act.eval, h3]) 43 TL.toArray (0, 0) _ (row_kept HX3.out hb6) Tryz.underlying43 rfl (by rw [HST.out, List.size_toArray]) (wpList_nil (hQ _ _ ⟨_, rfl, Below.refl _ _, by rintro t' ⟨⟩; rfl⟩)))
    | 18, ho =>
      obtain rfl := Option.some.inj ho
      obtain ⟨_, h47, rfl⟩ := given_fed hg 47 (by decide +kernel)
      obtain ⟨_, h46, rfl⟩ := given_fed hg 46 (by decide +kernel)
      clear hg
      exact st_enter (w1 := w6) ho (wanted_some rfl rfl h46 rfl) 104 #[.agg TL.toArray] (by simp [execOp, Act.eval, h47, resolve, go_sem]) ((CB.out w6).mono (by rintro e w7 ⟨rfl, hb7⟩; exact ⟨_, rfl, _, rfl, hb7, by rintro t' ⟨⟩; rfl⟩))
    | 19, ho =>
      obtain rfl := Option.some.inj ho
      have h1 := given_old hg 1 (by decide +kernel)
      obtain ⟨_, h46, rfl⟩ := given_fed hg 46 (by decide +kernel)
      clear hg
      exact st_list ho (wanted_some rfl rfl h46 rfl) fun Q' hQ => wpList_met (wanted_some rfl rfl h46 rfl) (wpList_load_row rfl 43 (.tmp 1) rfl g1 (by simp [Act.eval, h1]) 43 TL.toArray (0, 0) _ (row_kept HX1.out hb6) Tryz.underlying43 rfl (by rw [HST.out, List.size_toArray]) (wpList_nil (hQ _ _ ⟨_, rfl, Below.refl _ _, by rintro t' ⟨⟩; rfl⟩)))
    | 20, ho =>
      obtain rfl := Option.some.inj ho
      obtain ⟨_, h49, rfl⟩ := given_fed hg 49 (by decide +kernel)
      obtain ⟨_, h46, rfl⟩ := given_fed hg 46 (by decide +kernel)
      clear hg
      exact st_enter (w1 := w6) ho (wanted_some rfl rfl h46 rfl) 104 #[.agg TL.toArray] (by simp [execOp, Act.eval, h49, resolve, go_sem]) ((CB.out w6).mono (by rintro e w7 ⟨rfl, hb7⟩; exact ⟨_, rfl, _, rfl, hb7, by rintro t' ⟨⟩; rfl⟩))
    | 21, ho =>
      obtain rfl := Option.some.inj ho
      obtain ⟨_, h48, rfl⟩ := given_fed hg 48 (by decide +kernel)
      obtain ⟨_, h50, rfl⟩ := given_fed hg 50 (by decide +kernel)
      obtain ⟨_, h46, rfl⟩ := given_fed hg 46 (by decide +kernel)
      clear hg
      exact st_enter (w1 := w6) ho (wanted_some rfl rfl h46 rfl) 103 #[.agg TL.toArray, .agg TL.toArray] (by simp [execOp, Act.eval, h48, h50, resolve, go_sem]) ((CQ.out w6).mono (by rintro e w7 ⟨rfl, hb7⟩; exact ⟨_, rfl, _, rfl, hb7, by rintro t' ⟨⟩; rfl⟩))
    | 22, ho =>
      obtain rfl := Option.some.inj ho
      obtain ⟨_, h46, rfl⟩ := given_fed hg 46 (by decide +kernel)
      obtain ⟨_, h51, rfl⟩ := given_fed hg 51 (by decide +kernel)
      clear hg
      exact st_yield ho (wanted_none rfl) (.bool true) w6 (by simp [execOp, Act.eval, h46, h51, go_sem]) ⟨_, rfl, Below.refl _ _, by rintro t' ⟨⟩; rfl⟩
    | 23, ho =>
      obtain rfl := Option.some.inj ho
      obtain ⟨_, h52, rfl⟩ := given_fed hg 52 (by decide +kernel)
      clear hg
      exact st_yield ho (wanted_none rfl) (.bool true) w6 (by simp [execOp, Act.eval, h52, go_sem]) ⟨_, rfl, Below.refl _ _, by rintro t' ⟨⟩; rfl⟩
    | 24, ho =>
      obtain rfl := Option.some.inj ho
      have h6 := given_old hg 6 (by decide +kernel)
      obtain ⟨_, h53, rfl⟩ := given_fed hg 53 (by decide +kernel)
      clear hg
      exact st_yield ho (wanted_some rfl rfl h53 rfl) (.int .i64 8) w6 (by simp [execOp, Act.eval, h6, go_sem]) ⟨_, rfl, Below.refl _ _, by rintro t' ⟨⟩; rfl⟩
    | 25, ho =>
      obtain rfl := Option.some.inj ho
      obtain ⟨_, h54, rfl⟩ := given_fed hg 54 (by decide +kernel)
      obtain ⟨_, h53, rfl⟩ := given_fed hg 53 (by decide +kernel)
      clear hg
      exact st_yield ho (wanted_some rfl rfl h53 rfl) (.bool true) w6 (by simp [execOp, Act.eval, h54, go_sem]) ⟨_, rfl, Below.refl _ _, by rintro t' ⟨⟩; rfl⟩
    | 26, ho =>
      obtain rfl := Option.some.inj ho
      obtain ⟨_, h53, rfl⟩ := given_fed hg 53 (by decide +kernel)
      obtain ⟨_, h55, rfl⟩ := given_fed hg 55 (by decide +kernel)
      clear hg
      exact st_yield ho (wanted_none rfl) (.bool true) w6 (by simp [execOp, Act.eval, h53, h55, go_sem]) ⟨_, rfl, Below.refl _ _, by rintro t' ⟨⟩; rfl⟩
    | 27, ho =>
      obtain rfl := Option.some.inj ho
      obtain ⟨_, h56, rfl⟩ := given_fed hg 56 (by decide +kernel)
      clear hg
      exact st_yield ho (wanted_none rfl) (.bool true) w6 (by simp [execOp, Act.eval, h56, go_sem]) ⟨_, rfl, Below.refl _ _, by rintro t' ⟨⟩; rfl⟩
    | 28, ho =>
      obtain rfl := Option.some.inj ho
      have h8 := given_old hg 8 (by decide +kernel)
      obtain ⟨_, h57, rfl⟩ := given_fed hg 57 (by decide +kernel)
      clear hg
      exact st_yield ho (wanted_some rfl rfl h57 rfl) (.slice (some ⟨b8, o8, none⟩) 1 c8) w6 (by simp [execOp, Act.eval, h8, go_sem]) ⟨_, rfl, Below.refl _ _, by rintro t' ⟨⟩; rfl⟩
    | 29, ho =>
      obtain rfl := Option.some.inj ho
      obtain ⟨_, h58, rfl⟩ := given_fed hg 58 (by decide +kernel)
      obtain ⟨_, h57, rfl⟩ := given_fed hg 57 (by decide +kernel)
      clear hg
      exact st_yield ho (wanted_some rfl rfl h57 rfl) (.int .i64 1) w6 (by simp [execOp, Act.eval, h58, go_sem, resolve]) ⟨_, rfl, Below.refl _ _, by rintro t' ⟨⟩; rfl⟩
    | 30, ho =>
      obtain rfl := Option.some.inj ho
      obtain ⟨_, h59, rfl⟩ := given_fed hg 59 (by decide +kernel)
      obtain ⟨_, h57, rfl⟩ := given_fed hg 57 (by decide +kernel)
      clear hg
      exact st_yield ho (wanted_some rfl rfl h57 rfl) (.bool true) w6 (by simp [execOp, Act.eval, h59, go_sem]) ⟨_, rfl, Below.refl _ _, by rintro t' ⟨⟩; rfl⟩
    | 31, ho =>
      obtain rfl := Option.some.inj ho
      obtain ⟨_, h57, rfl⟩ := given_fed hg 57 (by decide +kernel)
      obtain ⟨_, h60, rfl⟩ := given_fed hg 60 (by decide +kernel)
      clear hg
      exact st_yield ho (wanted_none rfl) (.bool true) w6 (by simp [execOp, Act.eval, h57, h60, go_sem]) ⟨_, rfl, Below.refl _ _, by rintro t' ⟨⟩; rfl⟩
    | 32, ho =>
      obtain rfl := Option.some.inj ho
      obtain ⟨_, h61, rfl⟩ := given_fed hg 61 (by decide +kernel)
      clear hg
      exact st_yield ho (wanted_none rfl) (.bool true) w6 (by simp [execOp, Act.eval, h61, go_sem]) ⟨_, rfl, Below.refl _ _, by rintro t' ⟨⟩; rfl⟩
    | 33, ho =>
      obtain rfl := Option.some.inj ho
      have h8 := given_old hg 8 (by decide +kernel)
      obtain ⟨_, h62, rfl⟩ := given_fed hg 62 (by decide +kernel)
      clear hg
      exact st_yield ho (wanted_some rfl rfl h62 rfl) (.slice (some ⟨b8, o8, none⟩) 1 c8) w6 (by simp [execOp, Act.eval, h8, go_sem]) ⟨_, rfl, Below.refl _ _, by rintro t' ⟨⟩; rfl⟩
    | 34, ho =>
      obtain rfl := Option.some.inj ho
      obtain ⟨_, h63, rfl⟩ := given_fed hg 63 (by decide +kernel)
      obtain ⟨_, h62, rfl⟩ := given_fed hg 62 (by decide +kernel)
      clear hg
      exact st_yield ho (wanted_some rfl rfl h62 rfl) (.pointer (some ⟨b8, o8, none⟩)) w6 (by simp [execOp, Act.eval, h63, go_sem]) ⟨_, rfl, Below.refl _ _, by rintro t' ⟨⟩; rfl⟩
    | 35, ho =>
      obtain rfl := Option.some.inj ho
      obtain ⟨_, h64, rfl⟩ := given_fed hg 64 (by decide +kernel)
      obtain ⟨_, h62, rfl⟩ := given_fed hg 62 (by decide +kernel)
      clear hg
      exact st_yield ho (wanted_some rfl rfl h62 rfl) (.pointer (some ⟨b8, o8, none⟩)) w6 (by simp [execOp, Act.eval, h64, go_sem]) ⟨_, rfl, Below.refl _ _, by rintro t' ⟨⟩; rfl⟩
    | 36, ho =>
      obtain rfl := Option.some.inj ho
      obtain ⟨_, h65, rfl⟩ := given_fed hg 65 (by decide +kernel)
      obtain ⟨_, h62, rfl⟩ := given_fed hg 62 (by decide +kernel)
      clear hg
      exact st_yield ho (wanted_some rfl rfl h62 rfl) (.string ⟨#[97]⟩) w6 (by simp [execOp, Act.eval, h65, go_sem, z0]) ⟨_, rfl, Below.refl _ _, by rintro t' ⟨⟩; rfl⟩
    | 37, ho =>
      obtain rfl := Option.some.inj ho
      obtain ⟨_, h66, rfl⟩ := given_fed hg 66 (by decide +kernel)
      obtain ⟨_, h62, rfl⟩ := given_fed hg 62 (by decide +kernel)
      clear hg
      exact st_yield ho (wanted_some rfl rfl h62 rfl) (.bool true) w6 (by simp [execOp, Act.eval, h66, go_sem]) ⟨_, rfl, Below.refl _ _, by rintro t' ⟨⟩; rfl⟩
    | 38, ho =>
      obtain rfl := Option.some.inj ho
      obtain ⟨_, h62, rfl⟩ := given_fed hg 62 (by decide +kernel)
      obtain ⟨_, h67, rfl⟩ := given_fed hg 67 (by decide +kernel)
      clear hg
      exact st_yield ho (wanted_none rfl) (.bool true) w6 (by simp [execOp, Act.eval, h62, h67, go_sem]) ⟨_, rfl, Below.refl _ _, by rintro t' ⟨⟩; rfl⟩
    | 39, ho =>
      obtain rfl := Option.some.inj ho
      obtain ⟨_, h68, rfl⟩ := given_fed hg 68 (by decide +kernel)
      clear hg
      exact st_yield ho (wanted_none rfl) (.bool true) w6 (by simp [execOp, Act.eval, h68, go_sem]) ⟨_, rfl, Below.refl _ _, by rintro t' ⟨⟩; rfl⟩
    | 40, ho =>
      obtain rfl := Option.some.inj ho
      obtain ⟨_, h69, rfl⟩ := given_fed hg 69 (by decide +kernel)
      clear hg
      exact st_yield ho (wanted_some rfl rfl h69 rfl) (.agg ZL.toArray) w6 (by simp [execOp, Act.eval, hbz]) ⟨_, rfl, Below.refl _ _, by rintro t' ⟨⟩; rfl⟩
    | 41, ho =>
      obtain rfl := Option.some.inj ho
      obtain ⟨_, h70, rfl⟩ := given_fed hg 70 (by decide +kernel)
      obtain ⟨_, h69, rfl⟩ := given_fed hg 69 (by decide +kernel)
      clear hg
      exact st_enter (w1 := w6) ho (wanted_some rfl rfl h69 rfl) 48 #[.agg ZL.toArray] (by simp [execOp, Act.eval, h70, resolve, go_sem]) ((CZ.out w6).mono (by rintro e w7 ⟨v, rfl, hown, hb7⟩; exact ⟨v, rfl, _, rfl, hb7, by rintro t' ⟨⟩; exact hown.rb⟩))
    | 42, ho =>
      obtain rfl := Option.some.inj ho
      obtain ⟨v71, h71, p71⟩ := given_fed hg 71 (by decide +kernel)
      obtain ⟨_, h69, rfl⟩ := given_fed hg 69 (by decide +kernel)
      clear hg
      obtain ⟨a9, c9, rfl, -⟩ := p71
      rw [HZB.out] at h71
      exact st_yield ho (wanted_some rfl rfl h69 rfl) (.int .i64 4) w6 (by simp [execOp, Act.eval, h71, resolve, go_sem]) ⟨_, rfl, Below.refl _ _, by rintro t' ⟨⟩; rfl⟩
    | 43, ho =>
      obtain rfl := Option.some.inj ho
      obtain ⟨_, h72, rfl⟩ := given_fed hg 72 (by decide +kernel)
      obtain ⟨_, h69, rfl⟩ := given_fed hg 69 (by decide +kernel)
      clear hg
      exact st_yield ho (wanted_some rfl rfl h69 rfl) (.bool true) w6 (by simp [execOp, Act.eval, h72, go_sem]) ⟨_, rfl, Below.refl _ _, by rintro t' ⟨⟩; rfl⟩
    | 44, ho =>
      obtain rfl := Option.some.inj ho
      obtain ⟨_, h69, rfl⟩ := given_fed hg 69 (by decide +kernel)
      obtain ⟨_, h73, rfl⟩ := given_fed hg 73 (by decide +kernel)
      clear hg
      exact st_yield ho (wanted_none rfl) (.bool true) w6 (by simp [execOp, Act.eval, h69, h73, go_sem]) ⟨_, rfl, Below.refl _ _, by rintro t' ⟨⟩; rfl⟩
    | 45, ho =>
      obtain rfl := Option.some.inj ho
      obtain ⟨_, h74, rfl⟩ := given_fed hg 74 (by decide +kernel)
      clear hg
      exact st_yield ho (wanted_none rfl) (.bool true) w6 (by simp [execOp, Act.eval, h74, go_sem]) ⟨_, rfl, Below.refl _ _, by rintro t' ⟨⟩; rfl⟩
    | n + 46, ho => simp at ho
  · intro f w20 hb20 hv
    have h0 := hv 0 (by decide)
    simp only [VBg] at h0
    have HB20 := Go.Lib.hid (HB14.out.trans (hb20.mono HB14.out.size))
    clear hv hb20 HC8 hix ha HX1 HX3 HX7 HB14
    unfold putAll
    simp only [List.foldl]
    simp only [h0]
    go_simp
    go_wp2_with fail
    go_ret
    exact ⟨rfl, HB20.out⟩
end Go.Proofs.YthbnecdeebmlhaaGreat

namespace Go.Proofs.YthbnecdeebmlhaaGreat
open Go.RowKit

theorem LayOk.congr {TT UU : TabT} (h : LayOk TT) (he : ∀ q, q < 32 → TT q = UU q) : LayOk UU :=
  ⟨by rw [← ok_congr 32 he]; exact h.ok, fun q hq => by rw [← he q hq]; exact h.recs q hq⟩
theorem HW.congr {w : World} {B p : Nat} {u : Value} {r : Option Addr} {TT UU : TabT} (h : HW w B p u r TT) (he : ∀ q, q < 32 → TT q = UU q) : HW w B p u r UU :=
  ⟨h.bp, h.row, by rw [← recs_congr 32 he]; exact h.own, by rw [← hasL_congr 32 he]; exact h.rk, h.lay.congr he⟩
theorem new_ok {TT : TabT} (h : LayOk TT) (w : World) : Calls Tryz.prog 11 #[.agg (tabL TT 32).toArray] w fun e w' => ∃ p u r, e = .returned (.tuple #[.pointer (some ⟨p, 0, none⟩), .int .i64 0]) ∧ HW w' w.heap.size p u r TT ∧ Below w.heap.size w w' :=
  (hnew_c TT w h.sizes h.recs).mono fun e w' ⟨hb, hor⟩ => by
    rcases hor with ⟨-, p, u, r, h1, h2⟩ | ⟨h1, -⟩
    · exact ⟨p, u, r, h1, h2, hb⟩
    · rw [h.ok] at h1; cases h1
theorem open_put {TT : TabT} (h : LayOk TT) (v : Value) (w : World) (hv : RB w v (tabB TT)) : Calls Tryz.prog 14 #[v] w fun e w' => ∃ p u r, e = .returned (.tuple #[.pointer (some ⟨p, 0, none⟩), .int .i64 0]) ∧ HW w' w.heap.size p u r TT ∧ Below w.heap.size w w' :=
  (hopen_c v _ w hv).mono fun e w' ⟨hb, hor⟩ => by
    rw [decT_put h.ok h.recs] at hor
    rcases hor with ⟨UU, h0, p, u, r, h1, h2⟩ | ⟨h1, -⟩
    · cases h0
      exact ⟨p, u, r, h1, h2.congr fun q hq => cutT_old TT hq, hb⟩
    · cases h1
theorem open_bad {l : List UInt8} (h : decT l = none) (v : Value) (w : World) (hv : RB w v l) : Calls Tryz.prog 14 #[v] w fun e w' => e = .returned (.tuple #[.pointer none, .int .i64 8]) ∧ Below w.heap.size w w' :=
  (hopen_c v _ w hv).mono fun e w' ⟨hb, hor⟩ => by
    rcases hor with ⟨UU, h0, -⟩ | ⟨-, h1⟩
    · rw [h] at h0; cases h0
    · exact ⟨h1, hb⟩

set_option maxRecDepth 100000 in
theorem Begun19_c (w : World) : Calls Tryz.prog 33 #[] w fun e w' => e = .returned (.bool true) ∧ Below w.heap.size w w' := by
  have C := Go.Lib.hid (begun19_c w)
  go_enter Tryz.func33, Tryz.ntmps33
  go_wp2_with fail
  refine C.out.mono ?_
  rintro e w1 ⟨rfl, hb⟩
  have HB := Go.Lib.hid hb
  clear hb C
  go_wp2_with fail
  go_ret
  exact ⟨rfl, HB.out⟩

theorem xa_keys : KeysOk [xaR] := by unfold KeysOk; simp
theorem xa_find : findK keyR [xaR] (⟨#[97]⟩ : ByteArray).toList = some xaR := (find_iff xa_keys _ _).2 ⟨List.mem_singleton.2 rfl, rfl⟩
theorem xb_find : findK keyR [xaR] (⟨#[98]⟩ : ByteArray).toList = none := (find_none _).2 fun x hx e => by
  rw [List.mem_singleton.1 hx] at e
  have := keyR_eq.1 e
  exact absurd this (by decide)
theorem xa_hash : hR xaR = hashS ⟨#[97]⟩ := rfl
theorem xa_reads : readsR [xaR] ⟨#[97]⟩ = 1 := by
  unfold readsR
  rw [List.countP_cons, List.countP_nil, xa_hash, if_pos (near_self _)]
set_option maxHeartbeats 8000000 in
set_option maxRecDepth 100000 in
theorem begun20_c (w : World) : Calls Tryz.prog 8 #[] w fun e w' => e = .returned (.bool true) ∧ Below w.heap.size w w' := by
  have hz := zero_tabZ
  have CL := Go.Lib.hid fun W (h : RS W (.slice (some ⟨w.heap.size, 0, none⟩) 1 1) [xaR]) => llay_c (.slice (some ⟨w.heap.size, 0, none⟩) 1 1) (.slice none 0 0) [xaR] [] W h ⟨none, 0, rfl, Nat.le_refl _, by simp [maxLen], fun _ => rfl, fun h => absurd rfl h⟩ (fun x hx => by rw [List.mem_singleton.1 hx]; exact xa_ok)
  rw [show min [xaR].length 40 = 1 from rfl] at CL
  have HOK := Go.Lib.hid layA_ok
  have HREC := Go.Lib.hid layA_recs
  generalize layN [xaR] [] 1 = TT at *
  have COF := Go.Lib.hid fun W => lof_c TT W
  have CN := Go.Lib.hid fun W => new_ok HOK.out W
  have CGA := Go.Lib.hid (show ∀ (W : World) B p u r, HW W B p u r TT → Calls Tryz.prog 19 #[.pointer (some ⟨p, 0, none⟩), .string ⟨#[97]⟩] W fun e w' => e = .returned (.tuple #[.agg #[.string ⟨#[97]⟩, .bool true, .int .i64 0, .int .i64 0, .string ⟨#[]⟩], .bool true]) ∧ Below W.heap.size W w' from fun W B p u r h => by
    have := hget_c h ⟨#[97]⟩ (by decide)
    rw [HREC.out, xa_find, outR_some] at this
    exact this)
  have CGB := Go.Lib.hid (show ∀ (W : World) B p u r, HW W B p u r TT → Calls Tryz.prog 19 #[.pointer (some ⟨p, 0, none⟩), .string ⟨#[98]⟩] W fun e w' => e = .returned (.tuple #[.agg #[.string ⟨#[]⟩, .bool false, .int .i64 0, .int .i64 0, .string ⟨#[]⟩], .bool false]) ∧ Below W.heap.size W w' from fun W B p u r h => by
    have := hget_c h ⟨#[98]⟩ (by decide)
    rw [HREC.out, xb_find, outR_none] at this
    exact this)
  have CRD := Go.Lib.hid (show ∀ (W : World) B p u r, HW W B p u r TT → Calls Tryz.prog 20 #[.pointer (some ⟨p, 0, none⟩), .string ⟨#[97]⟩] W fun e w' => e = .returned (.int .i64 1) ∧ Below W.heap.size W w' from fun W B p u r h => by
    have := hreads_c h ⟨#[97]⟩ (by decide)
    rw [HREC.out, xa_reads] at this
    exact this)
  have CLN := Go.Lib.hid (show ∀ (W : World) B p u r, HW W B p u r TT → Calls Tryz.prog 22 #[.pointer (some ⟨p, 0, none⟩)] W fun e w' => e = .returned (.int .i64 1) ∧ W = w' from fun W B p u r h => by
    have := hlen_c h
    rw [HREC.out] at this
    exact this)
  have CBY := Go.Lib.hid (fun (W : World) B p u r (h : HW W B p u r TT) => hbytes_c h)
  have COP := Go.Lib.hid (fun v (W : World) h => open_put HOK.out v W h)
  have CO0 := Go.Lib.hid (fun (W : World) => open_bad (decT_none (l := []) (by decide)) (.slice none 0 0) W ⟨none, 0, rfl, Nat.le_refl _, by simp [maxLen], fun _ => rfl, fun h => absurd rfl h⟩)
  have CBG := Go.Lib.hid Begun19_c
  have HZS := Go.Lib.hid (sizeTabO zeroT)
  have HZL := Go.Lib.hid (tabL_one zeroT)
  have HST := Go.Lib.hid (sizeTabO TT)
  have HTO := Go.Lib.hid (tabL_one TT)
  have HLE := Go.Lib.hid (show (tabL zeroT 32).length = (tabL TT 32).length from by rw [tabL_len, tabL_len])
  generalize tabB TT = B at *
  generalize tabL zeroT 32 = ZL at *
  generalize tabL TT 32 = TL at *
  have hb1 := below_one w (.cells #[.string ⟨#[97]⟩, .bool true, .int .i64 0, .int .i64 0, .string ⟨#[]⟩] 28)
  have HR1 := Go.Lib.hid (RS.one w xaR)
  have HB1 := Go.Lib.hid hb1
  unfold xaR at HR1
  simp only [] at HR1
  clear hb1
  go_enter Tryz.func8, Tryz.ntmps8
  go_wp2_with fail
  refine (CL.out _ HR1.out).mono ?_
  rintro e w2 ⟨rfl, hc⟩
  have HB2 := Go.Lib.hid (HB1.out.trans (hc.mono HB1.out.size))
  clear hc CL HR1 HB1
  go_wp2_with fail
  refine (COF.out _).mono ?_
  rintro e w3 ⟨rfl, hc⟩
  have HB3 := Go.Lib.hid (HB2.out.trans (hc.mono HB2.out.size))
  clear hc COF HB2
  have hb4 := below_one w3 (.cells ZL.toArray 43)
  have HZ4 := Go.Lib.hid (heap_alloc_new w3 (.cells ZL.toArray 43))
  have HX4 := Go.Lib.hid (setRow_heap _ w3.heap.size _ TL.toArray 43 (0, 0) HZ4.out)
  have HB4 := Go.Lib.hid (HB3.out.trans ((setRow_below TL.toArray hb4 (Nat.le_refl _)).mono HB3.out.size))
  clear hb4 HB3
  go_upto_region 2 with (first
    | (with_reducible show wpList _ _ _ (⟨none, Op.store 43 (.tmp 1) (.tmp 15), _, _, _, _⟩ :: _) _ _; go_loud (refine wpList_store_row rfl 43 (.tmp 1) (.tmp 15) rfl w3.heap.size TL.toArray rfl rfl 43 _ HZ4.out (by rw [HST.out, List.size_toArray]) (by rw [List.size_toArray, List.size_toArray]; exact HLE.out) HTO.out ?_))
    | fail)
  obtain ⟨g1, hg1⟩ : ∃ g1, g1 = w3.heap.size := ⟨_, rfl⟩
  rw [← hg1] at HX4 HB4 ⊢
  clear hg1 HZ4
  generalize (w3.alloc (.cells ZL.toArray 43)).setRow g1 TL.toArray = w4 at *
  go_wp2_with (first
    | (with_reducible show wpList _ _ _ (⟨some 17, _, _, _, _, _⟩ :: _) _ _; go_loud (refine wpList_load_row rfl 43 (.tmp 1) rfl g1 rfl 43 TL.toArray (0, 0) _ HX4.out Tryz.underlying43 rfl (by rw [HST.out, List.size_toArray]) ?_))
    | fail)
  refine (CN.out _).mono ?_
  rintro e w5 ⟨p, u, r, rfl, hw, hc⟩
  have H5 := Go.Lib.hid hw
  have HB5 := Go.Lib.hid (HB4.out.trans (hc.mono HB4.out.size))
  clear hw hc CN HB4 HX4
  go_wp2_with fail
  refine (CGA.out _ _ _ _ _ H5.out).mono ?_
  rintro e w6 ⟨rfl, hc⟩
  have hb7 := below_one w6 (.cells #[.string ⟨#[97]⟩, .bool true, .int .i64 0, .int .i64 0, .string ⟨#[]⟩] 28)
  have HXA := Go.Lib.hid (heap_alloc_new w6 (.cells #[.string ⟨#[97]⟩, .bool true, .int .i64 0, .int .i64 0, .string ⟨#[]⟩] 28))
  have hc7 := hc.trans (hb7.mono hc.size)
  have H7 := Go.Lib.hid (H5.out.below hc7)
  have HB7 := Go.Lib.hid (HB5.out.trans (hc7.mono HB5.out.size))
  clear hc hb7 hc7 CGA H5 HB5
  go_upto_region 6 with (fail)
  obtain ⟨gA, hgA⟩ : ∃ g, g = w6.heap.size := ⟨_, rfl⟩
  rw [← hgA] at HXA ⊢
  clear hgA
  generalize w6.alloc (.cells #[.string ⟨#[97]⟩, .bool true, .int .i64 0, .int .i64 0, .string ⟨#[]⟩] 28) = w7 at *
  go_wp2_with fail
  refine (CGB.out _ _ _ _ _ H7.out).mono ?_
  rintro e w8 ⟨rfl, hc⟩
  have hb7 := below_one w8 (.cells #[.string ⟨#[]⟩, .bool false, .int .i64 0, .int .i64 0, .string ⟨#[]⟩] 28)
  have hc7 := hc.trans (hb7.mono hc.size)
  have H9 := Go.Lib.hid (H7.out.below hc7)
  have HB9 := Go.Lib.hid (HB7.out.trans (hc7.mono HB7.out.size))
  have HXA := Go.Lib.hid (row_kept HXA.out hc7)
  clear hc hb7 hc7 CGB H7 HB7
  go_upto_region 7 with (fail)
  generalize w8.alloc (.cells #[.string ⟨#[]⟩, .bool false, .int .i64 0, .int .i64 0, .string ⟨#[]⟩] 28) = w9 at *
  go_wp2_with fail
  refine (CBY.out _ _ _ _ _ H9.out).mono ?_
  rintro e w10 ⟨v, rfl, ho, hc⟩
  have HO := Go.Lib.hid ho.rb
  have H10 := Go.Lib.hid (H9.out.below hc)
  have HB10 := Go.Lib.hid (HB9.out.trans (hc.mono HB9.out.size))
  have HXA := Go.Lib.hid (row_kept HXA.out hc)
  clear hc ho CBY H9 HB9
  go_wp2_with fail
  refine (COP.out _ _ HO.out).mono ?_
  rintro e w11 ⟨p2, u2, r2, rfl, hw, hc⟩
  have H11 := Go.Lib.hid (H10.out.below hc)
  have HQ11 := Go.Lib.hid hw
  have HB11 := Go.Lib.hid (HB10.out.trans (hc.mono HB10.out.size))
  have HXA := Go.Lib.hid (row_kept HXA.out hc)
  clear hc hw COP H10 HB10 HO
  go_wp2_with fail
  refine (CO0.out _).mono ?_
  rintro e w12 ⟨rfl, hc⟩
  have H12 := Go.Lib.hid (H11.out.below hc)
  have HQ12 := Go.Lib.hid (HQ11.out.below hc)
  have HB12 := Go.Lib.hid (HB11.out.trans (hc.mono HB11.out.size))
  have HXA := Go.Lib.hid (row_kept HXA.out hc)
  clear hc CO0 H11 HB11 HQ11
  go_wp2_with fail
  refine (CBG.out _).mono ?_
  rintro e w13 ⟨rfl, hc⟩
  have H13 := Go.Lib.hid (H12.out.below hc)
  have HQ13 := Go.Lib.hid (HQ12.out.below hc)
  have HB13 := Go.Lib.hid (HB12.out.trans (hc.mono HB12.out.size))
  have HXA := Go.Lib.hid (row_kept HXA.out hc)
  clear hc CBG H12 HB12 HQ12
  obtain ⟨y0, y1, y2, y3, y4⟩ := row5 HXA.out
  go_wp2_with fail
  refine (CRD.out _ _ _ _ _ H13.out).mono ?_
  rintro e w14 ⟨rfl, hc⟩
  have H14 := Go.Lib.hid (H13.out.below hc)
  have HQ14 := Go.Lib.hid (HQ13.out.below hc)
  have HB14 := Go.Lib.hid (HB13.out.trans (hc.mono HB13.out.size))
  clear hc CRD H13 HB13 HQ13 HXA y0 y1 y2 y3 y4
  go_wp2_with fail
  refine (CLN.out _ _ _ _ _ H14.out).mono ?_
  rintro e w15 ⟨rfl, rfl⟩
  go_wp2_with fail
  refine (CLN.out _ _ _ _ _ HQ14.out).mono ?_
  rintro e w15 ⟨rfl, rfl⟩
  go_wp2_with fail
  go_ret
  exact ⟨rfl, HB14.out⟩
end Go.Proofs.YthbnecdeebmlhaaGreat

namespace Go.Proofs.YthbnecdeebmlhaaGreat
open Go.RowKit

section
variable {w : World} {g : Nat} {TT : TabT}
theorem TK.of_row (hh : w.heap[g]? = some (.cells (tabL TT 32).toArray 33 (0, 0))) : TK w g TT := by
  refine ⟨⟨_, _, hh⟩, fun o => frozen_of_row _ _ _ _ _ hh, fun q j hq hj => ?_⟩
  rw [cell_of_row _ _ _ _ _ _ hh, List.getElem?_toArray]
  exact tabL_at TT 32 q j hq hj
end
/-- What the laws ask of a table, be it one or none. -/
structure BadOk (TT : TabT) : Prop where
  sz : ∀ q, q < 32 → (TT q).2.1.size ≤ 1000 ∧ (TT q).2.2.2.2.2.size ≤ 1000
  ok : TabOk TT
theorem LayOk.bad {TT : TabT} (h : LayOk TT) : BadOk TT := ⟨h.sizes, h.recs⟩
theorem BadOk.set {TT : TabT} (h : BadOk TT) (n : Nat) {y : Bool × RecT} (hs : y.2.1.size ≤ 1000 ∧ y.2.2.2.2.2.size ≤ 1000) (hr : RecOk y.2) : BadOk (setT TT n y) := by
  refine ⟨fun q hq => ?_, fun q hq => ?_⟩
  · by_cases e : q = n
    · subst e; rw [setT_new]; exact hs
    · rw [setT_old TT n y e]; exact h.sz q hq
  · by_cases e : q = n
    · subst e; rw [setT_new]; exact hr
    · rw [setT_old TT n y e]; exact h.ok q hq
end Go.Proofs.YthbnecdeebmlhaaGreat

namespace Go.Proofs.YthbnecdeebmlhaaGreat
open Go.RowKit

set_option maxRecDepth 100000 in
theorem short_c (v : Value) (l : List UInt8) (n : Nat) (w : World) (hv : RB w v l) (hn : n ≤ 1000) :
    Calls Tryz.prog 17 #[v, .int .i64 n] w fun e w' => (∃ v', e = .returned v' ∧ RB w v' (l.take n)) ∧ w = w' := by
  obtain ⟨a, cap, rfl, h1, h2, h3, h4⟩ := hv
  have hs := h2
  unfold maxLen at hs
  by_cases h : n < l.length
  · cases a with
    | none => have := h3 rfl; omega
    | some a =>
      have hr : RB w (.slice (some a) n cap) (l.take n) := by
        refine ⟨some a, cap, by rw [List.length_take, Nat.min_eq_left (by omega)], by rw [List.length_take]; omega, h2, (fun h => by cases h), fun hl => ?_⟩
        obtain ⟨b, o, ha, hc⟩ := h4 (by intro e; subst e; simp at h)
        exact ⟨b, o, ha, fun i hi => by
          have := hc i (by rw [List.length_take] at hi; omega)
          simpa using this⟩
      have Hr := Go.Lib.hid hr; clear hr h3 h4
      go_enter Tryz.func17, Tryz.ntmps17
      go_wp2
      go_ret
      exact ⟨⟨_, rfl, Hr.out⟩, rfl⟩
  · have hr : RB w (.slice a l.length cap) (l.take n) := by
      rw [List.take_of_length_le (by omega)]
      exact ⟨a, cap, rfl, h1, h2, h3, h4⟩
    have Hr := Go.Lib.hid hr; clear hr h3 h4
    go_enter Tryz.func17, Tryz.ntmps17
    go_wp2
    go_ret
    exact ⟨⟨_, rfl, Hr.out⟩, rfl⟩

theorem rb_first {w : World} {a : Option Addr} {cap : Nat} {l : List UInt8} (h : RB w (.slice a l.length cap) l) (n : Nat) (hn : n ≤ l.length) : RB w (.slice a n cap) (l.take n) := by
  obtain ⟨a', cap', hv, h1, h2, h3, h4⟩ := h
  cases hv
  refine ⟨a, cap, by rw [List.length_take, Nat.min_eq_left hn], by rw [List.length_take]; omega, h2, h3, fun hl => ?_⟩
  have hne : l ≠ [] := by rintro rfl; simp at hl
  obtain ⟨b, o, ha, hc⟩ := h4 hne
  exact ⟨b, o, ha, fun i hi => by
    have := hc i (by rw [List.length_take] at hi; omega)
    simpa using this⟩
set_option maxRecDepth 100000 in
/-- .. wherever its argument reads so. -/
theorem short_w (v : Value) (l : List UInt8) (n : Nat) (w : World) (hv : RB w v l) (hn : n ≤ 1000) :
    Calls Tryz.prog 17 #[v, .int .i64 n] w fun e w' => (∃ v', e = .returned v' ∧ ∀ W, RB W v l → RB W v' (l.take n)) ∧ w = w' := by
  obtain ⟨a, cap, rfl, h1, h2, h3, h4⟩ := hv
  have hs := h2
  unfold maxLen at hs
  by_cases h : n < l.length
  · cases a with
    | none => have := h3 rfl; omega
    | some a =>
      have Hr := Go.Lib.hid (fun W (hW : RB W (.slice (some a) l.length cap) l) => rb_first hW n (by omega)); clear h3 h4
      go_enter Tryz.func17, Tryz.ntmps17
      go_wp2
      go_ret
      exact ⟨⟨_, rfl, Hr.out⟩, rfl⟩
  · have Hr := Go.Lib.hid (fun W (hW : RB W (.slice a l.length cap) l) => show RB W (.slice a l.length cap) (l.take n) from by rw [List.take_of_length_le (by omega)]; exact hW); clear h3 h4
    go_enter Tryz.func17, Tryz.ntmps17
    go_wp2
    go_ret
    exact ⟨⟨_, rfl, Hr.out⟩, rfl⟩

end Go.Proofs.YthbnecdeebmlhaaGreat

namespace Go.Proofs.YthbnecdeebmlhaaGreat
open Go.RowKit

def xa : RecT := (⟨#[97]⟩, true, 0, 0, ⟨#[]⟩)
end Go.Proofs.YthbnecdeebmlhaaGreat

namespace Go.Proofs.YthbnecdeebmlhaaGreat
open Go.RowKit

theorem may_num (k : ByteArray) (z : Int) (h1 : 1 ≤ k.size) (h2 : k.size ≤ 16) : mayT (k, false, 1, z, ⟨#[]⟩) = true := by unfold mayT mayRec mayK mayR; simp [h1, h2]
theorem may_gone (k : ByteArray) (h1 : 1 ≤ k.size) (h2 : k.size ≤ 16) : mayT (k, true, 0, 0, ⟨#[]⟩) = true := by unfold mayT mayRec mayK; simp [h1, h2]
end Go.Proofs.YthbnecdeebmlhaaGreat

namespace Go.Proofs.YthbnecdeebmlhaaGreat
open Go.RowKit

def keyF (i : Nat) : List UInt8 := [UInt8.ofNat (97 + i % 20), UInt8.ofNat (97 + i / 20)]
def recF (i : Nat) : RecT := (str (keyF i), decide (i % 3 = 0), (if i % 3 = 0 then 0 else 1 : Nat), (if i % 3 = 0 then 0 else i : Nat), ⟨#[]⟩)
theorem keyF_size (i : Nat) : (str (keyF i)).size = 2 := str_size _
theorem byte_inj {a b : Nat} (ha : a < 256) (hb : b < 256) (h : UInt8.ofNat a = UInt8.ofNat b) : a = b := by
  have := congrArg UInt8.toNat h
  rw [UInt8.toNat_ofNat', UInt8.toNat_ofNat'] at this
  omega
theorem keyF_inj {i j : Nat} (hi : i < 400) (hj : j < 400) (h : keyF i = keyF j) : i = j := by
  unfold keyF at h
  simp only [List.cons.injEq, and_true] at h
  have h1 := byte_inj (by omega) (by omega) h.1
  have h2 := byte_inj (by omega) (by omega) h.2
  omega
theorem recF_inj {i j : Nat} (hi : i < 400) (hj : j < 400) (h : keyR (recF i) = keyR (recF j)) : i = j := by
  have h1 : (recF i).1 = (recF j).1 := keyR_eq.1 (by rw [h]; rfl)
  have h2 : str (keyF i) = str (keyF j) := h1
  refine keyF_inj hi hj ?_
  have := congrArg bl h2
  rwa [bl_str, bl_str] at this
theorem recF_may (i : Nat) : mayT (recF i) = true := by
  unfold recF
  by_cases h : i % 3 = 0
  · rw [if_pos h, if_pos h, decide_eq_true h]
    exact may_gone _ (by rw [keyF_size]; omega) (by rw [keyF_size]; omega)
  · rw [if_neg h, if_neg h, decide_eq_false h]
    exact may_num _ _ (by rw [keyF_size]; omega) (by rw [keyF_size]; omega)
theorem wf_nat {n : Nat} (h : n ≤ 1000) : (Lit.int .i64 (n : Int)).wf = true := by
  have h1 : IntKind.i64.min = -9223372036854775808 := rfl
  have h2 : IntKind.i64.max = 9223372036854775807 := rfl
  show (decide (IntKind.i64.min ≤ (n : Int)) && decide ((n : Int) ≤ IntKind.i64.max)) = true
  rw [Bool.and_eq_true, decide_eq_true_iff, decide_eq_true_iff, h1, h2]
  omega
theorem recF_ok {i : Nat} (hi : i < 400) : RecOk (recF i) := by
  refine ⟨?_, ?_, ?_, ?_⟩
  · show (str (keyF i)).size ≤ maxLen
    rw [keyF_size]; unfold maxLen; omega
  · show (Lit.int .i64 ((if i % 3 = 0 then 0 else 1 : Nat) : Int)).wf = true
    exact wf_nat (by split <;> omega)
  · show (Lit.int .i64 ((if i % 3 = 0 then 0 else i : Nat) : Int)).wf = true
    exact wf_nat (by split <;> omega)
  · show (⟨#[]⟩ : ByteArray).size ≤ maxLen
    decide
theorem recF_cut (i : Nat) : cutR (recF i) = recF i := by
  unfold cutR
  have h1 : str ((bl (recF i).1).take 20) = (recF i).1 := by
    show str ((bl (str (keyF i))).take 20) = str (keyF i)
    rw [bl_str, List.take_of_length_le (by simp [keyF])]
  have h2 : str ((bl (recF i).2.2.2.2).take 30) = (recF i).2.2.2.2 := by
    show str ((bl ⟨#[]⟩).take 30) = ⟨#[]⟩
    decide
  rw [h1, h2]
def recsF (n : Nat) : List RecT := (List.range n).map recF
theorem recsF_len (n : Nat) : (recsF n).length = n := by simp [recsF]
theorem recsF_at {n i : Nat} (h : i < (recsF n).length) : (recsF n)[i] = recF i := by simp [recsF]
theorem recsF_succ (n : Nat) : recsF (n + 1) = recsF n ++ [recF n] := by simp [recsF, List.range_succ]
theorem recsF_one {i n : Nat} (h : i < n) : ((recsF n).take (i + 1)).drop i = [recF i] := by
  refine List.ext_getElem (by simp [recsF_len]; omega) fun k h1 h2 => ?_
  simp only [List.length_singleton] at h2
  obtain rfl : k = 0 := by omega
  simp [recsF]
/-- One record alone, laid. -/
def oneF (i : Nat) (t : List Bool) : TabT := setT zeroT (4 * layB (recF i) (t.getD 0 false)) (true, recF i)
theorem lay_one (i : Nat) (t : List Bool) : layN [recF i] t 1 = oneF i t := by
  show lay1 zeroT 0 (cutR (recF i)) (t.getD 0 false) = _
  rw [recF_cut, lay_zero 0 _ (recF_may i)]
  rfl
/-- The table behind the records ahead of i. -/
structure FullT (UU : TabT) (i : Nat) : Prop where
  lay : LayOk UU
  from_ : ∀ x ∈ recsT UU 32, ∃ j, j < i ∧ x = recF j
theorem FullT.start : FullT zeroT 0 := ⟨zero_ok, fun x hx => by rw [show recsT zeroT 32 = [] from by decide +kernel] at hx; cases hx⟩
theorem FullT.none {UU : TabT} {i : Nat} (h : FullT UU i) : FullT UU (i + 1) := ⟨h.lay, fun x hx => by
  obtain ⟨j, hj, e⟩ := h.from_ x hx
  exact ⟨j, by omega, e⟩⟩
theorem FullT.put {UU : TabT} {i s : Nat} (h : FullT UU i) (hi : i < 400) (t : List Bool) (hs : s < 4) (hf : (UU (4 * layB (recF i) (t.getD 0 false) + s)).1 = false) :
    FullT (setT UU (4 * layB (recF i) (t.getD 0 false) + s) (true, recF i)) (i + 1) ∧ (recsT (setT UU (4 * layB (recF i) (t.getD 0 false) + s) (true, recF i)) 32).length = (recsT UU 32).length + 1 := by
  have hb := layB_lt (recF i) (t.getD 0 false)
  have hp := (recs_set (x := recF i) hf 32).1 (by omega)
  refine ⟨⟨h.lay.set hb hs hf (recF_may i) (recF_ok hi) (layB_is _ _) fun y hy e => ?_, fun x hx => ?_⟩, ?_⟩
  · obtain ⟨j, hj, rfl⟩ := h.from_ y hy
    have := recF_inj (by omega) hi e
    omega
  · rcases List.mem_append.1 (hp.mem_iff.1 hx) with hx | hx
    · obtain ⟨j, hj, e⟩ := h.from_ x hx
      exact ⟨j, by omega, e⟩
    · exact ⟨i, by omega, List.mem_singleton.1 hx⟩
  · rw [hp.length_eq]
    simp

set_option maxRecDepth 100000 in
theorem lval_c (k : Nat) (w : World) (hk : k < 400) :
    Calls Tryz.prog 32 #[.int .i64 (k : Int)] w fun e w' => e = .returned (.agg #[.int .i64 ((if k % 3 = 0 then 0 else 1 : Nat) : Int), .int .i64 ((if k % 3 = 0 then 0 else k : Nat) : Int), .string ⟨#[]⟩]) ∧ Below w.heap.size w w' := by
  have hb1 := below_one w (.cells #[.int .i64 0, .int .i64 0, .string ⟨#[]⟩] 26)
  have HA := Go.Lib.hid (heap_alloc_new w (.cells #[.int .i64 0, .int .i64 0, .string ⟨#[]⟩] 26))
  have HB := Go.Lib.hid hb1
  clear hb1
  obtain ⟨C, hC⟩ : ∃ C, C = k % 3 := ⟨_, rfl⟩
  have r1 : (k : Int).tmod 3 = (C : Int) := by rw [Int.tmod_eq_emod_of_nonneg (by omega)]; omega
  rw [← hC]
  have hC3 : C < 3 := by omega
  clear hC
  go_enter Tryz.func32, Tryz.ntmps32
  by_cases h : C = 0
  · subst h
    go_wp2_with fail
    exact bodyPost_ret (results_cell_row rfl _ _ w.heap.size 26 #[.int .i64 0, .int .i64 0, .string ⟨#[]⟩] (0, 0) _ rfl (heap_alloc_new w _) Tryz.underlying26 rfl (by kernel_rfl)) rfl ⟨rfl, below_one w _⟩
  · rw [if_neg h, if_neg h]
    have hI : ¬ (C : Int) = 0 := by omega
    go_wp2_with fail
    exact bodyPost_ret (results_cell_row rfl _ _ w.heap.size 26 #[.int .i64 1, .int .i64 (k : Int), .string ⟨#[]⟩] (0, 0) _ rfl (heap_alloc_new w _) Tryz.underlying26 rfl (by kernel_rfl)) rfl ⟨rfl, below_one w _⟩
end Go.Proofs.YthbnecdeebmlhaaGreat
