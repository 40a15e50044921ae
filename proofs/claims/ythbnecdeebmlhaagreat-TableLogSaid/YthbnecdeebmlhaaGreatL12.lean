/-
  Stage 20: bucket, alike, Get, Reads.
  Slices of bools.
  Slices of records: contract of the reference's EqRecs.
  The reference's Find.
  Stage 18: find.
  Records by the generic laws of slices (XGenS): their layout.
  Mathematics of a map that says of each key where it stood last (of no code), and what is the newest of each key.
  What the library's slices.Sorted gives of maps.Keys of a map: its keys, sorted, in a slice of their own (the library's contracts laid at this program; made by gen/SortL.py).
  Package record: contract of Newest.
  Stage 18: Get, Slot, Reads, List.
  Stage 20: the law's right: a store tells just a table's.
-/
import Derived.Test.YthbnecdeebmlhaaGreatL10
import Derived.Test.YthbnecdeebmlhaaGreatL04
import Derived.Test.YthbnecdeebmlhaaGreatL06
import Derived.Test.YthbnecdeebmlhaaGreatL05
import Derived.Test.YthbnecdeebmlhaaGreatL03
import Derived.LoopTactic
import Derived.BigQuiet
import Derived.Test.YthbnecdeebmlhaaGreatL01
import Derived.Laws.BitsAllLaws
import Derived.Test.YthbnecdeebmlhaaGreatL02
import Derived.Deep.DeepCutAuto
import Derived.Test.YthbnecdeebmlhaaGreatL09
import Derived.Maps.OwnSet
import Derived.Maps.OwnOps
import Derived.Sort.KeysCollected
import Derived.Shelf.SlGeneric
import Derived.Shelf.SlIter.Nil
import Derived.Shelf.SortM.Plain
import Derived.Shelf.SortM.SortNone
import Derived.Ground.GgzProg
import Derived.Ground.SlgmProg
import Derived.Test.YthbnecdeebmlhaaGreatProg
import Derived.Carry
import Derived.Test.YthbnecdeebmlhaaGreatL11
import Derived.Test.YthbnecdeebmlhaaGreatL07
import Derived.Deep.DeepMust
import Derived.Test.YthbnecdeebmlhaaGreatL08
namespace Go.Proofs.YthbnecdeebmlhaaGreat
open Go.RowKit

/-- 'l[i:j]', in whatever world. -/
theorem RS.run_lh {w : World} {a : Option Addr} {len cap : Nat} {l : List RecT} (h : RS w (.slice a len cap) l) (i j : Nat) (hij : i ≤ j) (hj : j ≤ l.length) (k1 k2 : IntKind) :
    ∃ v, (∀ W, RS W (.slice a len cap) l → RS W v ((l.take j).drop i)) ∧ ∀ W, (Instr.slice 22 (.slice a len cap) (some (.int k1 (i : Int))) (some (.int k2 (j : Int))) none).run Tryz.prog W = .ok v W := by
  obtain ⟨h1, h2, h3⟩ := h.len
  refine ⟨sliced a i j cap 5, fun W hW => hW.cut i j hij hj, fun W => ?_⟩
  have hr := run_slice_lh (P := Tryz.prog) W 22 a len cap elemR k1 k2 (i : Int) (j : Int) (by omega) (by omega) (by omega)
  rw [sizeR] at hr
  simpa [Result.andThen] using hr

set_option maxHeartbeats 1000000 in
set_option maxRecDepth 100000 in
theorem hbucket_c {w : World} {B p : Nat} {u : Value} {r : Option Addr} {TT : TabT} (h : HW w B p u r TT) {b : Nat} (hb : b < 8) :
    Calls Tryz.prog 89 #[.pointer (some ⟨p, 0, none⟩), .int .i64 (b : Int)] w fun e w' => ∃ v, e = .returned v ∧ (∀ W, HW W B p u r TT → RS W v (bktT TT b)) ∧ Below w.heap.size w w' := by
  obtain ⟨x0, x1⟩ := h.cells
  have h1 := ones_has TT 32 (4 * b) (by omega)
  have h2 := ones_has TT 32 (4 * b + 4) (by omega)
  obtain ⟨a, cap, rfl, hm⟩ := h.own.rs.form
  obtain ⟨v, hv, hrun⟩ := h.own.rs.run_lh (recsT TT (4 * b)).length (recsT TT (4 * b + 4)).length (by rw [recsT_bkt, List.length_append]; omega) (by
    obtain ⟨t, ht⟩ := recsT_more TT (4 * b + 4) (28 - 4 * b)
    rw [show 4 * b + 4 + (28 - 4 * b) = 32 by omega] at ht
    rw [ht, List.length_append]; omega) .i64 .i64
  rw [bkt_cut TT hb] at hv
  have HV := Go.Lib.hid (show ∀ W, HW W B p (.slice a (recsT TT 32).length cap) r TT → RS W v (bktT TT b) from fun W hW => hv W hW.own.rs)
  have HL := Go.Lib.hid fun m => Calls.quiet_of (rones_d ((4 * b : Nat) : Int) (w.drewN m) B r _ (h.rk.below (below_drewN (Below.refl _ _) m)) (by omega) (by omega))
  have HU := Go.Lib.hid fun m => Calls.quiet_of (rones_d ((4 * b + 4 : Nat) : Int) (w.drewN m) B r _ (h.rk.below (below_drewN (Below.refl _ _) m)) (by omega) (by omega))
  simp only [onesI_nat] at HL HU
  rw [h1] at HL
  rw [h2] at HU
  obtain ⟨n, hn⟩ : ∃ n, n = 4 * b := ⟨_, rfl⟩
  have hnI : (b : Int) * 4 = (n : Int) := by omega
  have hn4 : n ≤ 28 := by omega
  obtain ⟨M, hM⟩ : ∃ M, M = 4 * b + 4 := ⟨_, rfl⟩
  have hMI : (n : Int) + 4 = (M : Int) := by omega
  have hM4 : M ≤ 32 := by omega
  generalize (recsT TT 32).length = len at *
  generalize (recsT TT (4 * b)).length = k1 at *
  generalize (recsT TT (4 * b + 4)).length = k2 at *
  rw [← hM] at HU
  rw [← hn] at HL
  generalize bktT TT b = BK at *
  clear h hv h1 h2 hn hm hM
  go_enter Tryz.func89, Tryz.ntmps89
  go_upto_region 2 with (fail)
  go_quiet (first
    | (go_at_call 112; first | with_reducible exact HL.out _ | with_reducible exact HU.out _))
  go_wp2_with fail
  go_ret
  exact ⟨_, rfl, HV.out, below_drewN (Below.refl _ _) _⟩

/-! ### Those alike. -/
def bkN (h i : Nat) : Nat := if i = 0 then firstN h else othN (firstN h) (tagN h)
theorem bkN_lt (h i : Nat) : bkN h i < 8 := by
  unfold bkN
  split
  · exact first_lt h
  · exact oth_lt _ (first_lt h)
def alikeG (TT : TabT) (h i j : Nat) : List RecT := ((List.range i).flatMap fun n => bktT TT (bkN h n)).filter (fun x => decide (tagN (hR x) = tagN h)) ++ ((bktT TT (bkN h i)).take j).filter fun x => decide (tagN (hR x) = tagN h)
theorem alikeG_next {TT : TabT} {h i j : Nat} (hj : j < (bktT TT (bkN h i)).length) : alikeG TT h i (j + 1) = alikeG TT h i j ++ if tagN (hR (bktT TT (bkN h i))[j]) = tagN h then [(bktT TT (bkN h i))[j]] else [] := by
  unfold alikeG
  rw [List.take_succ_eq_append_getElem hj, List.filter_append, ← List.append_assoc]
  congr 1
  split
  · rename_i e
    simp [e]
  · rename_i e
    simp [e]
theorem alikeG_row (TT : TabT) (h i : Nat) : alikeG TT h i (bktT TT (bkN h i)).length = alikeG TT h (i + 1) 0 := by
  unfold alikeG
  rw [List.take_length, List.range_succ, List.flatMap_append, List.filter_append]
  simp
theorem alikeG_all (TT : TabT) (k : ByteArray) : alikeG TT (hashS k) 2 0 = alikeT TT k := by
  unfold alikeG alikeT
  rw [show List.range 2 = [0, 1] from rfl]
  simp [bkN]
theorem alikeG_len (TT : TabT) (h i j : Nat) : (alikeG TT h i j).length ≤ 4 * i + 4 := by
  unfold alikeG
  rw [List.length_append]
  have h1 : ∀ i, ((List.range i).flatMap fun n => bktT TT (bkN h n)).length ≤ 4 * i := by
    intro i
    induction i with
    | zero => simp
    | succ i ih =>
      rw [List.range_succ, List.flatMap_append, List.length_append]
      have := bkt_len TT (bkN h i)
      simp only [List.flatMap_cons, List.flatMap_nil, List.append_nil]
      omega
  have h2 := h1 i
  have h3 := bkt_len TT (bkN h i)
  have h4 := List.length_filter_le (fun x => decide (tagN (hR x) = tagN h)) ((List.range i).flatMap fun n => bktT TT (bkN h n))
  have h5 := List.length_filter_le (fun x => decide (tagN (hR x) = tagN h)) ((bktT TT (bkN h i)).take j)
  have h6 : ((bktT TT (bkN h i)).take j).length ≤ 4 := by rw [List.length_take]; omega
  omega
theorem idxH2 (a b i : Nat) (hi : i < 2) (W : World) : (Instr.index 133 (.agg #[.int .i64 (a : Int), .int .i64 (b : Int)]) (.int .i64 (i : Int))).run Tryz.prog W = .ok (.int .i64 ((if i = 0 then a else b : Nat) : Int)) W := by
  obtain rfl | rfl : i = 0 ∨ i = 1 := by omega
  · kernel_rfl
  · kernel_rfl

set_option maxHeartbeats 4000000 in
set_option maxRecDepth 100000 in
theorem halike_c {w : World} {B p : Nat} {u : Value} {r : Option Addr} {TT : TabT} (h : HW w B p u r TT) (key : ByteArray) (hk : key.size ≤ 1000000) :
    Calls Tryz.prog 53 #[.pointer (some ⟨p, 0, none⟩), .string key] w fun e w' => ∃ v, e = .returned v ∧ OwnRec w' w.heap.size v (alikeT TT key) ∧ Below w.heap.size w w' := by
  have CH := Go.Lib.hid fun W => hof_k key (hashS key) rfl W hk
  have HALL := Go.Lib.hid (alikeG_all TT key)
  have CF := Go.Lib.hid fun W => hfirst_c (hashS key) W (hashS_lt key)
  have CT := Go.Lib.hid fun W => htag_c (hashS key) W (hashS_lt key)
  have CO := Go.Lib.hid fun W => by
    have h1 := first_lt (hashS key)
    have h2 := tag_lt (hashS key)
    have := hother_c (firstN (hashS key) : Int) (tagN (hashS key) : Int) W (by omega) (by omega) (by omega) (by omega)
    rw [otherI_nat h1 h2] at this
    exact this
  have HBK := Go.Lib.hid (fun (i : Nat) => show bkN (hashS key) i = if i = 0 then firstN (hashS key) else othN (firstN (hashS key)) (tagN (hashS key)) from rfl)
  have HBL := Go.Lib.hid (fun (i : Nat) => bkN_lt (hashS key) i)
  have HAN := Go.Lib.hid (fun (i j : Nat) (hj : j < (bktT TT (bkN (hashS key) i)).length) => alikeG_next (TT := TT) (h := hashS key) hj)
  have HAR := Go.Lib.hid (fun (i : Nat) => alikeG_row TT (hashS key) i)
  have HAL := Go.Lib.hid (fun (i j : Nat) => alikeG_len TT (hashS key) i j)
  have HTL := Go.Lib.hid (tag_lt (hashS key))
  have H := Go.Lib.hid (show ∀ W, Below w.heap.size w W → HW W B p u r TT from fun W hb => h.below hb)
  have HSZ := Go.Lib.hid (fun b (hb : b < 8) x (hx : x ∈ bktT TT b) => (mayT_short (bkt_lie h.lay.ok hb hx).1))
  have HG0 := Go.Lib.hid (show alikeG TT (hashS key) 0 0 = [] from rfl)
  have HBKL := Go.Lib.hid (fun b => bkt_len TT b)
  have hix := fun i hi W => idxH2 (firstN (hashS key)) (othN (firstN (hashS key)) (tagN (hashS key))) i hi W
  simp only [← HBK.out] at hix
  clear h hk HBK
  generalize alikeT TT key = OUT at *
  generalize alikeG TT (hashS key) = G at *
  generalize bkN (hashS key) = bk at *
  generalize othN (firstN (hashS key)) (tagN (hashS key)) = b2 at *
  generalize tagN (hashS key) = tg at *
  generalize firstN (hashS key) = b1 at *
  generalize hashS key = hx at *
  obtain ⟨g, hg⟩ : ∃ g, g = w.heap.size := ⟨_, rfl⟩
  have HG := Go.Lib.hid hg
  rw [← hg] at H ⊢
  clear hg
  go_enter Tryz.func53, Tryz.ntmps53
  go_wp2_with fail
  refine (CH.out _).mono ?_
  rintro e w1 ⟨rfl, hc⟩
  have HB1 := Go.Lib.hid (show Below g w w1 by rw [HG.out]; exact hc)
  clear hc CH
  go_wp2_with fail
  refine (CF.out _).mono ?_
  rintro e w2 ⟨rfl, rfl⟩
  clear CF
  go_wp2_with fail
  refine (CT.out _).mono ?_
  rintro e w2 ⟨rfl, rfl⟩
  clear CT
  go_wp2_with fail
  refine (CO.out _).mono ?_
  rintro e w2 ⟨rfl, rfl⟩
  clear CO
  go_wp2_with fail
  go_loopw [8, 26] (fun lv iv wr => ∃ (i : Nat) (v : Value), v = lv ∧ i ≤ 2 ∧ iv = .int .i64 (i : Int) ∧ Hid (OwnRec wr g v (G i 0)) ∧ Hid (Below g w wr)) (fun _ iv _ => 2 - (intOf iv).toNat)
  case atStart => exact ⟨0, _, rfl, by omega, rfl, Go.Lib.hid (by rw [HG0.out]; exact OwnRec.nil _ _), HB1⟩
  case round =>
    clear HB1
    obtain ⟨i, v, rfl, hi2, rfl, HO, HB⟩ := hrel
    by_cases hlt : i < 2
    · have hltI : (i : Int) < 2 := by omega
      have hixi := hix i hlt
      clear hix
      have HBKI := Go.Lib.hid (HBL.out i)
      have HAN := Go.Lib.hid (HAN.out i)
      have HAR := Go.Lib.hid (HAR.out i)
      have HAL := Go.Lib.hid (HAL.out i)
      have CB := Go.Lib.hid (hbucket_c (H.out _ HB.out) HBKI.out)
      have HSZ := Go.Lib.hid (HSZ.out _ HBKI.out)
      have hL4 := HBKL.out (bk i)
      clear HBL
      generalize bktT TT (bk i) = L at *
      generalize bk i = bki at *
      go_wp2_with fail
      refine CB.out.mono ?_
      rintro e w3 ⟨v3, rfl, hrs, hc⟩
      have hgw : g ≤ wr.heap.size := by have := HB.out.size; have := HG.out; omega
      have HR3 := Go.Lib.hid (show ∀ W, Below g w W → RS W v3 L from fun W hb => hrs W (H.out W hb))
      have HO3 := Go.Lib.hid (HO.out.below hc)
      have HB3 := Go.Lib.hid (HB.out.trans (hc.mono hgw))
      obtain ⟨a3, cap3, rfl, -⟩ := (HR3.out _ HB3.out).form
      clear hrs hc CB HO HB hgw hixi
      go_wp2_with fail
      go_loopw [8, 33] (fun lv jv wr => ∃ (j : Nat) (v : Value), v = lv ∧ j ≤ L.length ∧ jv = .int .i64 (j : Int) ∧ Hid (OwnRec wr g v (G i j)) ∧ Hid (Below g w wr)) (fun _ jv _ => L.length - (intOf jv).toNat)
      case atStart => exact ⟨0, _, rfl, by omega, rfl, HO3, HB3⟩
      case round =>
        clear HO3 HB3
        obtain ⟨j, v, rfl, hj, rfl, HO, HB⟩ := hrel
        by_cases hjl : j < L.length
        · have hjI : (j : Int) < (L.length : Int) := by omega
          obtain ⟨b, o, rfl, -, -, c0, c1, c2, c3, c4⟩ := (HR3.out _ HB.out).at j hjl
          have hix5 := run_idx5 b o L.length cap3 j hjl
          have HY := Go.Lib.hid (fun (e : tagN (hR L[j]) = tg) => show G i (j + 1) = G i j ++ [L[j]] from by rw [HAN.out j hjl, if_pos e])
          have HNX := Go.Lib.hid (fun (e : tagN (hR L[j]) ≠ tg) => show G i (j + 1) = G i j from by rw [HAN.out j hjl, if_neg e, List.append_nil])
          have hsz := HSZ.out _ (List.getElem_mem hjl)
          have HLE := Go.Lib.hid (HAL.out j)
          generalize L[j] = y at *
          obtain ⟨kx, gx, ax, nx, sx⟩ := y
          simp only [] at c0 c1 c2 c3 c4 hsz
          obtain ⟨hkx, hhk⟩ : ∃ h, h = hashS kx := ⟨_, rfl⟩
          have CH := Go.Lib.hid fun W => hof_k kx hkx hhk.symm W (by omega)
          have CT := Go.Lib.hid fun W => htag_c hkx W (by rw [hhk]; exact hashS_lt kx)
          have HTX := Go.Lib.hid (tag_lt hkx)
          have HY := Go.Lib.hid (fun (e : tagN hkx = tg) => HY.out (by rw [hhk] at e; exact e))
          have HNX := Go.Lib.hid (fun (e : tagN hkx ≠ tg) => HNX.out (by rw [hhk] at e; exact e))
          obtain ⟨tx, htx⟩ : ∃ t, t = tagN hkx := ⟨_, rfl⟩
          rw [← htx] at HY HNX CT HTX
          clear htx hhk
          have hgw : g ≤ wr.heap.size := by have := HB.out.size; have := HG.out; omega
          have hbA := below_one wr (.cells #[.string kx, .bool gx, .int .i64 ax, .int .i64 nx, .string sx] 28)
          have HX := Go.Lib.hid (heap_alloc_new wr (.cells #[.string kx, .bool gx, .int .i64 ax, .int .i64 nx, .string sx] 28))
          have HO2 := Go.Lib.hid (HO.out.below hbA)
          have HB2 := Go.Lib.hid (HB.out.trans (hbA.mono hgw))
          clear hbA hsz HO HB hgw
          go_upto_region 12 with (fail)
          obtain ⟨g3, hg3⟩ : ∃ g, g = wr.heap.size := ⟨_, rfl⟩
          rw [← hg3] at HX ⊢
          clear hg3 c0 c1 c2 c3 c4 hix5
          generalize wr.alloc (.cells #[.string kx, .bool gx, .int .i64 ax, .int .i64 nx, .string sx] 28) = w4 at *
          obtain ⟨x0, x1, x2, x3, x4⟩ := row5 HX.out
          go_wp2_with fail
          refine (CH.out _).mono ?_
          rintro e w5 ⟨rfl, hc⟩
          have hgw : g ≤ w4.heap.size := by have := HB2.out.size; have := HG.out; omega
          have HX5 := Go.Lib.hid (row_kept HX.out hc)
          have HO5 := Go.Lib.hid (HO2.out.below hc)
          have HB5 := Go.Lib.hid (HB2.out.trans (hc.mono hgw))
          clear hc CH HX HO2 HB2 hgw x0 x1 x2 x3 x4
          obtain ⟨x0, x1, x2, x3, x4⟩ := row5 HX5.out
          go_wp2_with fail
          refine (CT.out _).mono ?_
          rintro e w6 ⟨rfl, rfl⟩
          clear CT
          by_cases he : tx = tg
          · have HY := Go.Lib.hid (HY.out he)
            have heI : ((tx : Int) == (tg : Int)) = true := by rw [he]; exact beq_self_eq_true _
            clear he
            have hb6 := below_one w5 (.cells #[.string kx, .bool gx, .int .i64 ax, .int .i64 nx, .string sx] 28)
            have HON := Go.Lib.hid (RS.one w5 (kx, gx, ax, nx, sx))
            simp only [] at HON
            have hgw : g ≤ w5.heap.size := by have := HB5.out.size; have := HG.out; omega
            have HO6 := Go.Lib.hid (HO5.out.below hb6)
            have HB6 := Go.Lib.hid (HB5.out.trans (hb6.mono hgw))
            clear hb6 HO5 HB5 hgw
            go_wp2_with (first
              | (with_reducible show wpList _ _ _ (⟨some 46, _, _, _, _, _⟩ :: _) _ _; go_loud (refine wpList_append_recs rfl (.tmp 43) (.tmp 45) rfl g v (.slice (some ⟨w5.heap.size, 0, none⟩) 1 1) (G i j) [(kx, gx, ax, nx, sx)] rfl rfl HO6.out HON.out (by have := HLE.out; simp; omega) (by have := HB6.out.size; have := HG.out; omega) ?_); intro v8 w8 ho8 hg8)
              | fail)
            have HO8 := Go.Lib.hid (show OwnRec w8 g v8 (G i (j + 1)) by rw [HY.out]; exact ho8)
            have HB8 := Go.Lib.hid (HB6.out.grown hg8 (by have := HB6.out.size; have := HG.out; omega) (fun j hj => HO6.out.row j hj))
            clear ho8 hg8
            go_wp2_with fail
            exact ⟨⟨j + 1, _, rfl, by omega, by go_num, HO8, HB8⟩, by simp only [intOf]; omega⟩
          · have HNX := Go.Lib.hid (HNX.out he)
            have heI : ((tx : Int) == (tg : Int)) = false := by rw [beq_eq_false_iff_ne]; omega
            clear he
            go_wp2_with fail
            exact ⟨⟨j + 1, _, rfl, by omega, by go_num, by rw [HNX.out]; exact HO5, HB5⟩, by simp only [intOf]; omega⟩
        · obtain rfl : j = L.length := by omega
          go_wp2_with fail
          exact ⟨⟨i + 1, _, rfl, by omega, by go_num, by rw [← HAR.out]; exact HO, HB⟩, by simp only [intOf]; omega⟩
    · obtain rfl : i = 2 := by omega
      rw [HALL.out] at HO
      go_wp2_with fail
      go_ret
      exact ⟨_, rfl, HO.out, HB.out⟩

set_option maxRecDepth 100000 in
theorem hreads_c {w : World} {B p : Nat} {u : Value} {r : Option Addr} {TT : TabT} (h : HW w B p u r TT) (key : ByteArray) (hk : key.size ≤ 1000000) :
    Calls Tryz.prog 20 #[.pointer (some ⟨p, 0, none⟩), .string key] w fun e w' => e = .returned (.int .i64 (readsR (recsT TT 32) key : Int)) ∧ Below w.heap.size w w' := by
  have C := Go.Lib.hid (halike_c h key hk)
  have HE := Go.Lib.hid (alike_len h.lay.ok key)
  clear h
  go_enter Tryz.func20, Tryz.ntmps20
  go_wp2_with fail
  refine C.out.mono ?_
  rintro e w1 ⟨v, rfl, ho, hb⟩
  have HB := Go.Lib.hid hb
  obtain ⟨a, cap, rfl, -⟩ := ho.rs.form
  clear hb C ho
  go_wp2_with fail
  go_ret
  exact ⟨by rw [HE.out]; rfl, HB.out⟩

theorem ret_hget_at {w w0 : World} {tmps : Array Value} {key : ByteArray} {gone : Bool} {k n : Int} {s : ByteArray} {g : Nat} {fr : Nat × Nat} {b : Bool} {v : Value}
    (hp : tmps.getD 4 undef = .pointer (some ⟨g, 0, none⟩)) (hg : w.heap[g]? = some (.cells #[.string key, .bool gone, .int .i64 k, .int .i64 n, .string s] 28 fr)) (h3 : tmps.getD 5 undef = .bool b)
    (hr : v = .tuple #[.agg #[.string key, .bool gone, .int .i64 k, .int .i64 n, .string s], .bool b]) (hb : Below w0.heap.size w0 w) : bodyPost Tryz.prog Tryz.f19 (fun e w' => e = .returned v ∧ Below w0.heap.size w0 w') Exit.ret { tmps := tmps, defers := [] } w := by
  subst hr
  have h := results_row_one (P := Tryz.prog) (fn := Tryz.f19) (p := 4) (u := 5) (ty := 28) rfl tmps w g 28 #[.string key, .bool gone, .int .i64 k, .int .i64 n, .string s] fr _ hp hg Tryz.underlying28 rfl (by kernel_rfl)
  rw [h3] at h
  exact bodyPost_ret h rfl ⟨rfl, hb⟩

/-- Get of what is alike: l, in which each key stands once. -/
structure GetI (w : World) (g : Nat) (v : Value) (l : List RecT) (key : ByteArray) (k : Nat) (w' : World) : Prop where
  rs : RS w' v l
  no : ∀ x ∈ l.take k, keyR x ≠ key.toList
  bel : Below g w w'
  box : w'.heap[g]? = some (.cells #[.string ⟨#[]⟩, .bool false, .int .i64 0, .int .i64 0, .string ⟨#[]⟩] 28 (0, 0))
theorem GetI.below {w w' w'' : World} {g : Nat} {v : Value} {l : List RecT} {key : ByteArray} {k : Nat} (h : GetI w g v l key k w') (hb : Below w'.heap.size w' w'') (hg : g ≤ w'.heap.size) : GetI w g v l key k w'' :=
  ⟨h.rs.below hb, h.no, h.bel.trans (hb.mono hg), (hb.block g (Array.getElem?_eq_some_iff.1 h.box).1).trans h.box⟩

set_option maxHeartbeats 2000000 in
set_option maxRecDepth 100000 in
theorem hget_c {w : World} {B p : Nat} {u : Value} {r : Option Addr} {TT : TabT} (h : HW w B p u r TT) (key : ByteArray) (hk : key.size ≤ 1000000) :
    Calls Tryz.prog 19 #[.pointer (some ⟨p, 0, none⟩), .string key] w fun e w' => e = .returned (outR (findK keyR (recsT TT 32) key.toList)) ∧ Below w.heap.size w w' := by
  have hb1 := below_one w (.cells #[.string ⟨#[]⟩, .bool false, .int .i64 0, .int .i64 0, .string ⟨#[]⟩] 28)
  have HB1 := Go.Lib.hid hb1
  have HA := Go.Lib.hid (heap_alloc_new w (.cells #[.string ⟨#[]⟩, .bool false, .int .i64 0, .int .i64 0, .string ⟨#[]⟩] 28))
  have C := Go.Lib.hid (halike_c (h.below hb1) key hk)
  have HF := Go.Lib.hid (alike_find h.lay.ok key)
  have HSZ := Go.Lib.hid (fun x (hx : x ∈ alikeT TT key) => mayT_short (alike_may h.lay.ok hx))
  clear h hb1
  rw [← HF.out]
  clear HF
  generalize alikeT TT key = l at *
  obtain ⟨g, hg⟩ : ∃ g, g = w.heap.size := ⟨_, rfl⟩
  have HG := Go.Lib.hid hg
  rw [← hg] at HA HB1
  clear hg
  go_enter Tryz.func19, Tryz.ntmps19
  go_wp2_with fail
  refine C.out.mono ?_
  rintro e w1 ⟨v, rfl, ho, hc⟩
  rw [← HG.out]
  have hgs : g ≤ (w.alloc (.cells #[.string ⟨#[]⟩, .bool false, .int .i64 0, .int .i64 0, .string ⟨#[]⟩] 28)).heap.size := by rw [HG.out]; exact HB1.out.size
  have HI := Go.Lib.hid (show GetI w g v l key 0 w1 from ⟨ho.rs, by simp, HB1.out.trans (hc.mono hgs), (hc.block g (Array.getElem?_eq_some_iff.1 HA.out).1).trans HA.out⟩)
  obtain ⟨a, cap, rfl, hm⟩ := ho.rs.form
  clear ho hc C HA HB1 hgs
  go_wp2_with fail
  go_loopw [12] (fun ki wr => ∃ k : Nat, k ≤ l.length ∧ ki = .int .i64 (k : Int) ∧ Hid (GetI w g (.slice a l.length cap) l key k wr)) (fun ki _ => l.length - (intOf ki).toNat)
  case atStart => exact ⟨0, by omega, rfl, HI⟩
  case round =>
    clear HI
    obtain ⟨k, hk, rfl, HI⟩ := hrel
    have hgw : g ≤ wr.heap.size := Nat.le_of_lt (Array.getElem?_eq_some_iff.1 HI.out.box).1
    by_cases hlt : k < l.length
    · obtain ⟨b, o, rfl, -, -, c0, c1, c2, c3, c4⟩ := HI.out.rs.at k hlt
      have hix := run_idx5 b o l.length cap k hlt
      have HYES := Go.Lib.hid (fun (he : keyR l[k] = key.toList) => show findK keyR l key.toList = some l[k] from by
        unfold findK
        rw [List.find?_eq_some_iff_getElem]
        refine ⟨by simpa using he, k, hlt, rfl, fun j hj => ?_⟩
        simp only [Bool.not_eq_true', decide_eq_false_iff_not]
        exact HI.out.no _ (List.mem_take_iff_getElem.2 ⟨j, by omega, rfl⟩))
      have HNEX := Go.Lib.hid (fun (he : keyR l[k] ≠ key.toList) => show ∀ x ∈ l.take (k + 1), keyR x ≠ key.toList from fun x hx => by
        rw [List.take_succ_eq_append_getElem hlt] at hx
        rcases List.mem_append.1 hx with h | h
        · exact HI.out.no x h
        · rw [List.mem_singleton.1 h]; exact he)
      have hsz := HSZ.out _ (List.getElem_mem hlt)
      generalize l[k] = x at *
      obtain ⟨kx, gx, ax, nx, sx⟩ := x
      simp only [] at c0 c1 c2 c3 c4 hsz
      have CR := Go.Lib.hid fun W => frec_c kx gx ax nx sx W (by omega) (by omega)
      unfold recV at CR
      have hbA := below_one wr (.cells #[.string kx, .bool gx, .int .i64 ax, .int .i64 nx, .string sx] 28)
      have HX := Go.Lib.hid (heap_alloc_new wr (.cells #[.string kx, .bool gx, .int .i64 ax, .int .i64 nx, .string sx] 28))
      have HI2 := Go.Lib.hid (HI.out.below hbA hgw)
      clear hbA hsz HI hgw
      go_upto_region 4 with (fail)
      obtain ⟨g3, hg3⟩ : ∃ g, g = wr.heap.size := ⟨_, rfl⟩
      rw [← hg3] at HX ⊢
      clear hg3 c0 c1 c2 c3 c4 hix
      generalize wr.alloc (.cells #[.string kx, .bool gx, .int .i64 ax, .int .i64 nx, .string sx] 28) = w4 at *
      obtain ⟨x0, x1, x2, x3, x4⟩ := row5 HX.out
      by_cases hq : kx.toList = key.toList
      · have HE := Go.Lib.hid (HYES.out hq)
        have hqb : (kx.toList == key.toList) = true := beq_iff_eq.2 hq
        clear HYES HNEX
        go_wp2_with fail
        refine (CR.out _).mono ?_
        rintro e w5 ⟨rfl, hc⟩
        have HI5 := Go.Lib.hid (HI2.out.below hc (Nat.le_of_lt (Array.getElem?_eq_some_iff.1 HI2.out.box).1))
        clear hc CR HI2 x0 x1 x2 x3 x4 HX
        go_wp2_with (first
          | (with_reducible show wpList _ _ _ (⟨none, Op.store 28 (.tmp 4) (.tmp 21), _, _, _, _⟩ :: _) _ _; go_loud (refine wpList_store_row rfl 28 (.tmp 4) (.tmp 21) rfl g #[.string kx, .bool gx, .int .i64 ax, .int .i64 nx, .string sx] rfl rfl 28 _ HI5.out.box (by kernel_rfl) rfl (rec_cells_one ..) ?_))
          | fail)
        refine ret_hget_at rfl (setRow_heap _ _ _ _ _ (0, 0) HI5.out.box) rfl ?_ (setRow_below _ (by rw [← HG.out]; exact HI5.out.bel) (by rw [HG.out]; exact Nat.le_refl _))
        rw [HE.out]
        rfl
      · have HS := Go.Lib.hid (HNEX.out hq)
        have hqb : (kx.toList == key.toList) = false := beq_eq_false_iff_ne.2 hq
        clear HYES HNEX
        go_wp2_with fail
        exact ⟨⟨k + 1, by omega, by go_num, Go.Lib.hid ⟨HI2.out.rs, HS.out, HI2.out.bel, HI2.out.box⟩⟩, by simp only [intOf]; omega⟩
    · obtain rfl : k = l.length := by omega
      have HE := Go.Lib.hid (show findK keyR l key.toList = none from (find_none _).2 (by have := HI.out.no; rwa [List.take_length] at this))
      go_wp2_with (first
        | (with_reducible show wpList _ _ _ (⟨none, Op.store 28 (.tmp 4) (.tmp 23), _, _, _, _⟩ :: _) _ _; go_loud (refine wpList_store_row rfl 28 (.tmp 4) (.tmp 23) rfl g #[.string ⟨#[]⟩, .bool false, .int .i64 0, .int .i64 0, .string ⟨#[]⟩] rfl rfl 28 _ HI.out.box (by kernel_rfl) rfl (rec_cells_one ..) ?_))
        | fail)
      refine ret_hget_at rfl (setRow_heap _ _ _ _ _ (0, 0) HI.out.box) rfl ?_ (setRow_below _ (by rw [← HG.out]; exact HI.out.bel) (by rw [HG.out]; exact Nat.le_refl _))
      rw [HE.out]
      rfl

end Go.Proofs.YthbnecdeebmlhaaGreat

namespace Go.Proofs.YthbnecdeebmlhaaGreat
open Go.RowKit

def zb (l : List Bool) : List Value := l.map Value.bool
theorem zb_length (l : List Bool) : (zb l).length = l.length := by simp [zb]
theorem zb_at (l : List Bool) (i : Nat) (h : i < l.length) : (zb l)[i]'(by rw [zb_length]; exact h) = .bool l[i] := by simp [zb]
/-- A bool of it. -/
theorem RV.zbAt {w : World} {a : Option Addr} {len cap : Nat} {l : List Bool} (h : RV w (.slice a len cap) (zb l)) (k : Nat) (hk : k < l.length) : ∃ b o, a = some ⟨b, o, none⟩ ∧ w.cell? ⟨b, o + k, none⟩ = some (.bool l[k]) ∧ b < w.heap.size := by
  obtain ⟨b, o, h1, h2, h3⟩ := h.at k (by rw [zb_length]; exact hk)
  rw [zb_at l k hk] at h2
  exact ⟨b, o, h1, h2, h3⟩
theorem RV.zbForm {w : World} {v : Value} {l : List Bool} (h : RV w v (zb l)) : ∃ a cap, v = .slice a l.length cap ∧ l.length ≤ 9223372036854775807 ∧ (a = none → l.length = 0) := by
  obtain ⟨a, cap, hv, h1, h2, h3, -⟩ := h
  rw [zb_length] at hv h1
  refine ⟨a, cap, hv, by unfold maxLen at h2; omega, fun ha => by have := h3 ha; omega⟩

end Go.Proofs.YthbnecdeebmlhaaGreat

namespace Go.Proofs.YthbnecdeebmlhaaGreat
open Go.RowKit

def VE (b1 o1 b2 o2 n m cap1 cap2 k : Nat) (kx : ByteArray) (gx : Bool) (ax nx : Int) (sx ky : ByteArray) (gy : Bool) (ay ny : Int) (sy : ByteArray) (q : Bool) : Nat → World → Value → Prop
  | 17, _, v => v = .slice (some ⟨b1, o1, none⟩) n cap1
  | 18, _, v => v = .int .i64 (k : Int)
  | 19, _, v => v = .pointer (some ⟨b1, o1 + k * 5, none⟩)
  | 20, _, v => v = .agg #[.string kx, .bool gx, .int .i64 ax, .int .i64 nx, .string sx]
  | 21, _, v => v = .slice (some ⟨b2, o2, none⟩) m cap2
  | 22, _, v => v = .int .i64 (k : Int)
  | 23, _, v => v = .pointer (some ⟨b2, o2 + k * 5, none⟩)
  | 24, _, v => v = .agg #[.string ky, .bool gy, .int .i64 ay, .int .i64 ny, .string sy]
  | 25, _, v => v = .bool q
  | 26, _, v => v = .bool (!q)
  | _, _, _ => True

theorem VE_below (b1 o1 b2 o2 n m cap1 cap2 k : Nat) (kx : ByteArray) (gx : Bool) (ax nx : Int) (sx ky : ByteArray) (gy : Bool) (ay ny : Int) (sy : ByteArray) (q : Bool) : ∀ (i : Nat) (w w' : World) (v : Value), VE b1 o1 b2 o2 n m cap1 cap2 k kx gx ax nx sx ky gy ay ny sy q i w v → Below w.heap.size w w' → VE b1 o1 b2 o2 n m cap1 cap2 k kx gx ax nx sx ky gy ay ny sy q i w' v := by
  intro i w w' v h hb
  unfold VE at h ⊢
  split at h <;> first | exact h | trivial | exact RB.below h hb | exact Own.below h hb

theorem eqGo {l m : List RecT} {k : Nat} (h1 : k < l.length) (h2 : k < m.length) (he : l.take k = m.take k) (h : l[k] = m[k]) : l.take (k + 1) = m.take (k + 1) := by
  rw [List.take_succ_eq_append_getElem h1, List.take_succ_eq_append_getElem h2, he, h]

set_option maxHeartbeats 2000000 in
set_option maxRecDepth 100000 in
theorem reqrecs_c (u v : Value) (l m : List RecT) (w : World) (hu : RS w u l) (hv : RS w v m) :
    Calls Tryz.prog 27 #[u, v] w fun e w' => e = .returned (.bool (decide (l = m))) ∧ Below w.heap.size w w' := by
  obtain ⟨a1, cap1, rfl, hm1⟩ := hu.form
  obtain ⟨a2, cap2, rfl, hm2⟩ := hv.form
  have HU := Go.Lib.hid hu; clear hu
  have HV := Go.Lib.hid hv; clear hv
  by_cases hl : l.length = m.length
  · have Hl := Go.Lib.hid hl
    have hlb : ((l.length : Int) == (m.length : Int)) = true := by simp [hl]
    have hln : ((l.length : Int) = (m.length : Int)) := by omega
    go_enter Tryz.func27, Tryz.ntmps27
    go_wp2_with fail
    clear hln hlb
    have hl2 := Hl.out
    have Hl2 := Go.Lib.hid hl2; clear hl2 hl
    go_loopw [5] (fun i w2 => ∃ k : Nat, k ≤ l.length ∧ i = .int .i64 (k : Int) ∧ l.take k = m.take k ∧ Below w.heap.size w w2) (fun i _ => l.length - (intOf i).toNat)
    case atStart => exact ⟨0, by omega, rfl, by simp, Below.refl _ _⟩
    case round =>
      obtain ⟨k, hk, rfl, htk, hbc⟩ := hrel
      have Htk := Go.Lib.hid htk; clear htk
      by_cases hlt : k < l.length
      · have hlt2 : k < m.length := by have := Hl.out; omega
        obtain ⟨b1, o1, rfl, -, -, c0, c1, c2, c3, c4⟩ := (HU.out.below hbc).at k hlt
        obtain ⟨b2, o2, rfl, -, -, d0, d1, d2, d3, d4⟩ := (HV.out.below hbc).at k hlt2
        have hix1 := run_idx5 b1 o1 l.length cap1 k hlt
        have hix2 := run_idx5 b2 o2 m.length cap2 k hlt2
        have Hgo := Go.Lib.hid (fun h => eqGo hlt hlt2 Htk.out h)
        have hne := Go.Lib.hid (fun (h : l[k] ≠ m[k]) => show l ≠ m from fun e => h (by subst e; rfl))
        have CE := reqrec_c l[k].1 l[k].2.1 l[k].2.2.1 l[k].2.2.2.1 l[k].2.2.2.2 m[k].1 m[k].2.1 m[k].2.2.1 m[k].2.2.2.1 m[k].2.2.2.2
        rw [eqRec_iff] at CE
        generalize hx : l[k] = x at *
        generalize hy : m[k] = y at *
        obtain ⟨kx, gx, ax, nx, sx⟩ := x
        obtain ⟨ky, gy, ay, ny, sy⟩ := y
        simp only [] at c0 c1 c2 c3 c4 d0 d1 d2 d3 d4 CE
        generalize hq : decide (((kx, gx, ax, nx, sx) : RecT) = (ky, gy, ay, ny, sy)) = q at *
        unfold recV at CE
        have CE := Go.Lib.hid CE
        have Hix1 := Go.Lib.hid hix1; clear hix1
        have Hix2 := Go.Lib.hid hix2; clear hix2
        have Hq := Go.Lib.hid hq; clear hq hx hy
        go_upto_region 6 with (fail)
        refine wp_region_each (by kernel_rfl) (VE b1 o1 b2 o2 l.length m.length cap1 cap2 k kx gx ax nx sx ky gy ay ny sy q) (VE_below b1 o1 b2 o2 l.length m.length cap1 cap2 k kx gx ax nx sx ky gy ay ny sy q) (by decide +kernel) (by decide +kernel) (by rfl) [17, 18, 19, 20, 21, 22, 23, 24, 25, 26] (by rfl) ?_ ?_
        · intro i o ho a w6 hb6 hlen hg
          have c0 := cell_kept c0 hb6
          have c1 := cell_kept c1 hb6
          have c2 := cell_kept c2 hb6
          have c3 := cell_kept c3 hb6
          have c4 := cell_kept c4 hb6
          have d0 := cell_kept d0 hb6
          have d1 := cell_kept d1 hb6
          have d2 := cell_kept d2 hb6
          have d3 := cell_kept d3 hb6
          have d4 := cell_kept d4 hb6
          have hix1 := Hix1.out w6
          have hix2 := Hix2.out w6
          match i, ho with
          | 0, ho =>
            obtain rfl := Option.some.inj ho
            have h0 := given_old hg 0 (by decide +kernel)
            clear hg
            exact st_yield ho (wanted_none rfl) (.slice (some ⟨b1, o1, none⟩) l.length cap1) w6 (by simp [execOp, Act.eval, h0, go_sem]) ⟨_, rfl, Below.refl _ _, by rintro t' ⟨⟩; rfl⟩
          | 1, ho =>
            obtain rfl := Option.some.inj ho
            have h5 := given_old hg 5 (by decide +kernel)
            clear hg
            exact st_yield ho (wanted_none rfl) (.int .i64 (k : Int)) w6 (by simp [execOp, Act.eval, h5, go_sem]) ⟨_, rfl, Below.refl _ _, by rintro t' ⟨⟩; rfl⟩
          | 2, ho =>
            obtain rfl := Option.some.inj ho
            obtain ⟨_, h17, rfl⟩ := given_fed hg 17 (by decide +kernel)
            obtain ⟨_, h18, rfl⟩ := given_fed hg 18 (by decide +kernel)
            clear hg
            exact st_yield ho (wanted_none rfl) (.pointer (some ⟨b1, o1 + k * 5, none⟩)) w6 (by simp [execOp, Act.eval, h17, h18, go_sem, hix1]) ⟨_, rfl, Below.refl _ _, by rintro t' ⟨⟩; rfl⟩
          | 3, ho =>
            obtain rfl := Option.some.inj ho
            obtain ⟨_, h19, rfl⟩ := given_fed hg 19 (by decide +kernel)
            clear hg
            exact st_yield ho (wanted_none rfl) (.agg #[.string kx, .bool gx, .int .i64 ax, .int .i64 nx, .string sx]) w6 (by simp [execOp, Act.eval, h19, go_sem, c0, c1, c2, c3, c4]) ⟨_, rfl, Below.refl _ _, by rintro t' ⟨⟩; rfl⟩
          | 4, ho =>
            obtain rfl := Option.some.inj ho
            have h1 := given_old hg 1 (by decide +kernel)
            clear hg
            exact st_yield ho (wanted_none rfl) (.slice (some ⟨b2, o2, none⟩) m.length cap2) w6 (by simp [execOp, Act.eval, h1, go_sem]) ⟨_, rfl, Below.refl _ _, by rintro t' ⟨⟩; rfl⟩
          | 5, ho =>
            obtain rfl := Option.some.inj ho
            have h5 := given_old hg 5 (by decide +kernel)
            clear hg
            exact st_yield ho (wanted_none rfl) (.int .i64 (k : Int)) w6 (by simp [execOp, Act.eval, h5, go_sem]) ⟨_, rfl, Below.refl _ _, by rintro t' ⟨⟩; rfl⟩
          | 6, ho =>
            obtain rfl := Option.some.inj ho
            obtain ⟨_, h21, rfl⟩ := given_fed hg 21 (by decide +kernel)
            obtain ⟨_, h22, rfl⟩ := given_fed hg 22 (by decide +kernel)
            clear hg
            exact st_yield ho (wanted_none rfl) (.pointer (some ⟨b2, o2 + k * 5, none⟩)) w6 (by simp [execOp, Act.eval, h21, h22, go_sem, hix2]) ⟨_, rfl, Below.refl _ _, by rintro t' ⟨⟩; rfl⟩
          | 7, ho =>
            obtain rfl := Option.some.inj ho
            obtain ⟨_, h23, rfl⟩ := given_fed hg 23 (by decide +kernel)
            clear hg
            exact st_yield ho (wanted_none rfl) (.agg #[.string ky, .bool gy, .int .i64 ay, .int .i64 ny, .string sy]) w6 (by simp [execOp, Act.eval, h23, go_sem, d0, d1, d2, d3, d4]) ⟨_, rfl, Below.refl _ _, by rintro t' ⟨⟩; rfl⟩
          | 8, ho =>
            obtain rfl := Option.some.inj ho
            obtain ⟨_, h20, rfl⟩ := given_fed hg 20 (by decide +kernel)
            obtain ⟨_, h24, rfl⟩ := given_fed hg 24 (by decide +kernel)
            clear hg
            exact st_enter (w1 := w6) ho (wanted_none rfl) 30 #[.agg #[.string kx, .bool gx, .int .i64 ax, .int .i64 nx, .string sx], .agg #[.string ky, .bool gy, .int .i64 ay, .int .i64 ny, .string sy]] (by simp [execOp, Act.eval, h20, h24, resolve, go_sem]) ((CE.out _).mono (by rintro e w7 ⟨rfl, hb7⟩; exact ⟨_, rfl, _, rfl, hb7, by rintro t' ⟨⟩; rfl⟩))
          | 9, ho =>
            obtain rfl := Option.some.inj ho
            obtain ⟨_, h25, rfl⟩ := given_fed hg 25 (by decide +kernel)
            clear hg
            exact st_yield ho (wanted_none rfl) (.bool (!q)) w6 (by simp [execOp, Act.eval, h25, go_sem]) ⟨_, rfl, Below.refl _ _, by rintro t' ⟨⟩; rfl⟩
          | n + 10, ho => simp at ho
        · intro f w6 hb6 hv
          have h26 := hv 26 (by decide)
          simp only [VE] at h26
          have hbc6 := hbc.trans (hb6.mono hbc.size)
          clear c0 c1 c2 c3 c4 d0 d1 d2 d3 d4 Hix1 Hix2 CE hv hbc hb6
          unfold putAll
          simp only [List.foldl]
          simp only [h26]
          cases q with
          | true =>
            have hgo := Go.Lib.hid (Hgo.out (of_decide_eq_true Hq.out))
            go_simp
            go_wp2_with fail
            go_roundw
            case rel => exact ⟨k + 1, by omega, by go_num, hgo.out, hbc6⟩
            case measure => simp only [intOf]; omega
          | false =>
            have hgo := Go.Lib.hid (decide_eq_false (hne.out (of_decide_eq_false Hq.out)))
            go_simp
            go_wp2_with fail
            go_ret
            exact ⟨ret_of (congrArg Value.bool hgo.out.symm), hbc6⟩
      · obtain rfl : k = l.length := by omega
        have hgo : l = m := by
          have := Htk.out
          rwa [List.take_of_length_le (Nat.le_refl _), List.take_of_length_le (by have := Hl.out; omega)] at this
        have Hgo := Go.Lib.hid (decide_eq_true hgo)
        clear hgo
        go_wp2_with fail
        go_ret
        exact ⟨ret_of (congrArg Value.bool Hgo.out.symm), hbc⟩
  · have hgo := Go.Lib.hid (decide_eq_false (show ¬ l = m from fun e => hl (by rw [e])))
    have hlb : ((l.length : Int) == (m.length : Int)) = false := by simp; omega
    have hln : ¬ ((l.length : Int) = (m.length : Int)) := by omega
    go_enter Tryz.func27, Tryz.ntmps27
    go_wp2_with fail
    go_ret
    exact ⟨ret_of (congrArg Value.bool hgo.out.symm), Below.refl _ _⟩

end Go.Proofs.YthbnecdeebmlhaaGreat

namespace Go.Proofs.YthbnecdeebmlhaaGreat
open Go.RowKit

theorem ret_rfind_at {w w0 : World} {tmps : Array Value} {key : ByteArray} {gone : Bool} {k n : Int} {s : ByteArray} {g : Nat} {fr : Nat × Nat} {b : Bool} {v : Value}
    (hp : tmps.getD 4 undef = .pointer (some ⟨g, 0, none⟩)) (hg : w.heap[g]? = some (.cells #[.string key, .bool gone, .int .i64 k, .int .i64 n, .string s] 28 fr)) (h3 : tmps.getD 5 undef = .bool b)
    (hr : v = .tuple #[.agg #[.string key, .bool gone, .int .i64 k, .int .i64 n, .string s], .bool b]) (hb : Below w0.heap.size w0 w) : bodyPost Tryz.prog Tryz.f35 (fun e w' => e = .returned v ∧ Below w0.heap.size w0 w') Exit.ret { tmps := tmps, defers := [] } w := by
  subst hr
  have h := results_row_one (P := Tryz.prog) (fn := Tryz.f35) (p := 4) (u := 5) (ty := 28) rfl tmps w g 28 #[.string key, .bool gone, .int .i64 k, .int .i64 n, .string s] fr _ hp hg Tryz.underlying28 rfl (by kernel_rfl)
  rw [h3] at h
  exact bodyPost_ret h rfl ⟨rfl, hb⟩

set_option maxHeartbeats 1000000 in
set_option maxRecDepth 100000 in
theorem rfind_c (v : Value) (l : List RecT) (key : ByteArray) (w : World) (hv : RS w v l) :
    Calls Tryz.prog 35 #[v, .string key] w fun e w' => e = .returned (outR (findK keyR l key.toList)) ∧ Below w.heap.size w w' := by
  obtain ⟨a, cap, rfl, hm⟩ := hv.form
  have hb1 := below_one w (.cells #[.string ⟨#[]⟩, .bool false, .int .i64 0, .int .i64 0, .string ⟨#[]⟩] 28)
  have HB1 := Go.Lib.hid hb1
  have HA := Go.Lib.hid (heap_alloc_new w (.cells #[.string ⟨#[]⟩, .bool false, .int .i64 0, .int .i64 0, .string ⟨#[]⟩] 28))
  have HR := Go.Lib.hid (hv.below hb1)
  clear hv hb1
  go_enter Tryz.func35, Tryz.ntmps35
  go_wp2_with fail
  generalize w.alloc (.cells #[.string ⟨#[]⟩, .bool false, .int .i64 0, .int .i64 0, .string ⟨#[]⟩] 28) = w1 at *
  go_loopw [6] (fun ki wr => ∃ k : Nat, k ≤ l.length ∧ ki = .int .i64 (k : Int) ∧ Hid (∀ x ∈ l.take k, keyR x ≠ key.toList) ∧ wr = w1) (fun ki _ => l.length - (intOf ki).toNat)
  case atStart => exact ⟨0, by omega, rfl, Go.Lib.hid (by simp), rfl⟩
  case round =>
    obtain ⟨k, hk, rfl, HNO, rfl⟩ := hrel
    by_cases hlt : k < l.length
    · obtain ⟨b, o, rfl, -, -, c0, c1, c2, c3, c4⟩ := HR.out.at k hlt
      have hix := run_idx5 b o l.length cap k hlt
      have HYES := Go.Lib.hid (fun (he : keyR l[k] = key.toList) => show findK keyR l key.toList = some l[k] from by
        unfold findK
        rw [List.find?_eq_some_iff_getElem]
        refine ⟨by simpa using he, k, hlt, rfl, fun j hj => ?_⟩
        simp only [Bool.not_eq_true', decide_eq_false_iff_not]
        exact HNO.out _ (List.mem_take_iff_getElem.2 ⟨j, by omega, rfl⟩))
      have HNEX := Go.Lib.hid (fun (he : keyR l[k] ≠ key.toList) => show ∀ x ∈ l.take (k + 1), keyR x ≠ key.toList from fun x hx => by
        rw [List.take_succ_eq_append_getElem hlt] at hx
        rcases List.mem_append.1 hx with h | h
        · exact HNO.out x h
        · rw [List.mem_singleton.1 h]; exact he)
      clear HNO
      generalize l[k] = x at *
      obtain ⟨kx, gx, ax, nx, sx⟩ := x
      simp only [] at c0 c1 c2 c3 c4
      by_cases hq : kx.toList = key.toList
      · have HE := Go.Lib.hid (HYES.out hq)
        have hqb : (kx.toList == key.toList) = true := beq_iff_eq.2 hq
        clear HYES HNEX
        go_wp2_with (first
          | (with_reducible show wpList _ _ _ (⟨none, Op.store 28 (.tmp 4) (.tmp 23), _, _, _, _⟩ :: _) _ _; go_loud (refine wpList_store_row rfl 28 (.tmp 4) (.tmp 23) rfl w.heap.size #[.string kx, .bool gx, .int .i64 ax, .int .i64 nx, .string sx] rfl rfl 28 _ HA.out (by kernel_rfl) rfl (rec_cells_one ..) ?_))
          | fail)
        refine ret_rfind_at rfl (setRow_heap _ _ _ _ _ (0, 0) HA.out) rfl ?_ (setRow_below _ HB1.out (Nat.le_refl _))
        rw [HE.out]
        rfl
      · have HS := Go.Lib.hid (HNEX.out hq)
        have hqb : (kx.toList == key.toList) = false := beq_eq_false_iff_ne.2 hq
        clear HYES HNEX
        go_wp2_with fail
        exact ⟨⟨k + 1, by omega, by go_num, HS, trivial⟩, by simp only [intOf]; omega⟩
    · obtain rfl : k = l.length := by omega
      have HE := Go.Lib.hid (show findK keyR l key.toList = none from (find_none _).2 (by have := HNO.out; rwa [List.take_length] at this))
      clear HNO
      go_wp2_with (first
        | (with_reducible show wpList _ _ _ (⟨none, Op.store 28 (.tmp 4) (.tmp 24), _, _, _, _⟩ :: _) _ _; go_loud (refine wpList_store_row rfl 28 (.tmp 4) (.tmp 24) rfl w.heap.size #[.string ⟨#[]⟩, .bool false, .int .i64 0, .int .i64 0, .string ⟨#[]⟩] rfl rfl 28 _ HA.out (by kernel_rfl) rfl (rec_cells_one ..) ?_))
        | fail)
      refine ret_rfind_at rfl (setRow_heap _ _ _ _ _ (0, 0) HA.out) rfl ?_ (setRow_below _ HB1.out (Nat.le_refl _))
      rw [HE.out]
      rfl

end Go.Proofs.YthbnecdeebmlhaaGreat

namespace Go.Proofs.YthbnecdeebmlhaaGreat
open Go.RowKit

/-- The numbers that are found of a key, rising. -/
def idsR (L : List RecT) (key : ByteArray) : List Int := (((esL L).filter fun e => nearN (hashS key) e.1).map Prod.snd).mergeSort (fun a b => decide (a ≤ b))
theorem ids_of {L : List RecT} {key : ByteArray} {F : List Int} (h1 : F.Pairwise (· ≤ ·)) (h2 : F.Perm (((esL L).filter fun e => nearN (hashS key) e.1).map Prod.snd)) : F = idsR L key := by
  have h3 := List.pairwise_mergeSort (le := fun (a b : Int) => decide (a ≤ b)) (fun a b c h g => by simp at *; omega) (fun a b => by simp; omega) (((esL L).filter fun e => nearN (hashS key) e.1).map Prod.snd)
  exact List.Perm.eq_of_pairwise (fun a b _ _ h g => by simp at *; omega) h1 (h3.imp fun h => by simpa using h) (h2.trans (List.mergeSort_perm _ _).symm)
theorem ids_mem {L : List RecT} {key : ByteArray} (z : Int) : z ∈ idsR L key ↔ ∃ i, ∃ h : i < L.length, z = (i : Int) ∧ nearN (hashS key) (hR L[i]) = true := near_mem (List.mergeSort_perm _ _) z
theorem ids_len (L : List RecT) (key : ByteArray) : (idsR L key).length = readsR L key := by
  unfold idsR
  rw [List.length_mergeSort, List.length_map, reads_len]
theorem ids_hit {L : List RecT} {key : ByteArray} {i : Nat} (hi : i < L.length) (hk : L[i].1 = key) : (i : Int) ∈ idsR L key := by
  rw [ids_mem]
  refine ⟨i, hi, rfl, ?_⟩
  unfold hR
  rw [hk]
  exact near_self _
/-- The directory finds, of a log's key, these numbers. -/
theorem lids_c {w : World} {B p d : Nat} {v : Value} {L : List RecT} (h : LG w B p d v L) (key : ByteArray) : Calls Tryz.prog 63 #[.pointer (some ⟨d, 0, none⟩), .int .u64 (hashS key : Int)] w fun e w' => ∃ u, e = .returned u ∧ KI.R w' u (idsR L key) ∧ Below w.heap.size w w' := by
  obtain ⟨T, hc, hf⟩ := h.ck
  have hl := h.len
  refine (cfind_c hc hf (hashS_lt key) (by rw [esL_len]; omega)).mono ?_
  rintro e w' ⟨u, F, rfl, ho, h1, h2, hb⟩
  rw [ids_of h1 h2] at ho
  exact ⟨u, rfl, ho.r, hb⟩

def VLf (p d hk : Nat) (key : ByteArray) (F : List Int) : Nat → World → Value → Prop
  | 7, _, v => v = .pointer (some ⟨p, 0, none⟩)
  | 8, _, v => v = .pointer (some ⟨p, 0, none⟩)
  | 9, _, v => v = .pointer (some ⟨p, 0, none⟩)
  | 10, _, v => v = .pointer (some ⟨d, 0, none⟩)
  | 11, _, v => v = .string key
  | 12, _, v => v = .int .u64 (hk : Int)
  | 13, w, v => KI.R w v F
  | 14, _, v => v = .int .i64 (F.length : Int)
  | 15, _, v => v = .int .i64 0
  | _, _, _ => True

theorem VLf_below (p d hk : Nat) (key : ByteArray) (F : List Int) : ∀ (i : Nat) (w w' : World) (v : Value), VLf p d hk key F i w v → Below w.heap.size w w' → VLf p d hk key F i w' v := by
  intro i w w' v h hb
  unfold VLf at h ⊢
  split at h <;> first | exact h | trivial | exact Lay.R.below h hb

set_option maxHeartbeats 2000000 in
set_option maxRecDepth 100000 in
theorem lfind_c {w : World} {B p d : Nat} {v : Value} {L : List RecT} (h : LG w B p d v L) (key : ByteArray) (hk : key.size ≤ 1000000) :
    Calls Tryz.prog 57 #[.pointer (some ⟨p, 0, none⟩), .string key] w fun e w' => ((∃ i, ∃ h : i < L.length, L[i].1 = key ∧ e = .returned (.int .i64 (i : Int))) ∨ ((∀ x ∈ L, x.1 ≠ key) ∧ e = .returned (.int .i64 (-1)))) ∧ Below w.heap.size w w' := by
  have CH := Go.Lib.hid fun W => hof_k key (hashS key) rfl W hk
  have CF := Go.Lib.hid fun W (hb : Below w.heap.size w W) => lids_c (h.below hb) key
  have X0 := Go.Lib.hid h.cells.1
  have X1 := Go.Lib.hid h.cells.2
  obtain ⟨a, cap, rfl, hm⟩ := h.own.rs.form
  have HR := Go.Lib.hid h.own.rs
  have HM := Go.Lib.hid fun z => (ids_mem (L := L) (key := key) z).1
  have HH := Go.Lib.hid fun i (hi : i < L.length) (hk : L[i].1 = key) => ids_hit hi hk
  have HN := Go.Lib.hid h.len
  clear h hk
  generalize idsR L key = F at *
  generalize hashS key = hk at *
  go_enter Tryz.func57, Tryz.ntmps57
  go_upto_region 1 with (fail)
  refine wp_region_each (by kernel_rfl) (VLf p d hk key F) (VLf_below p d hk key F) (by decide +kernel) (by decide +kernel) (by rfl) [7, 8, 9, 10, 11, 12, 13, 14, 15] (by rfl) ?_ ?_
  · intro i o ho a w6 hb6 hlen hg
    have x0 := keepC X0.out hb6
    match i, ho with
    | 0, ho =>
      obtain rfl := Option.some.inj ho
      have h0 := given_old hg 0 (by decide +kernel)
      clear hg
      exact st_yield ho (wanted_none rfl) (.pointer (some ⟨p, 0, none⟩)) w6 (by simp [execOp, Act.eval, h0, go_sem]) ⟨_, rfl, Below.refl _ _, by rintro t' ⟨⟩; rfl⟩
    | 1, ho =>
      obtain rfl := Option.some.inj ho
      obtain ⟨_, h7, rfl⟩ := given_fed hg 7 (by decide +kernel)
      clear hg
      exact st_yield ho (wanted_none rfl) (.pointer (some ⟨p, 0, none⟩)) w6 (by simp [execOp, Act.eval, h7, go_sem]) ⟨_, rfl, Below.refl _ _, by rintro t' ⟨⟩; rfl⟩
    | 2, ho =>
      obtain rfl := Option.some.inj ho
      obtain ⟨_, h8, rfl⟩ := given_fed hg 8 (by decide +kernel)
      clear hg
      exact st_yield ho (wanted_none rfl) (.pointer (some ⟨p, 0, none⟩)) w6 (by simp [execOp, Act.eval, h8, go_sem]) ⟨_, rfl, Below.refl _ _, by rintro t' ⟨⟩; rfl⟩
    | 3, ho =>
      obtain rfl := Option.some.inj ho
      obtain ⟨_, h9, rfl⟩ := given_fed hg 9 (by decide +kernel)
      clear hg
      exact st_yield ho (wanted_none rfl) (.pointer (some ⟨d, 0, none⟩)) w6 (by simp [execOp, Act.eval, h9, go_sem, x0]) ⟨_, rfl, Below.refl _ _, by rintro t' ⟨⟩; rfl⟩
    | 4, ho =>
      obtain rfl := Option.some.inj ho
      have h1 := given_old hg 1 (by decide +kernel)
      clear hg
      exact st_yield ho (wanted_none rfl) (.string key) w6 (by simp [execOp, Act.eval, h1, go_sem]) ⟨_, rfl, Below.refl _ _, by rintro t' ⟨⟩; rfl⟩
    | 5, ho =>
      obtain rfl := Option.some.inj ho
      obtain ⟨_, h11, rfl⟩ := given_fed hg 11 (by decide +kernel)
      clear hg
      exact st_enter (w1 := w6) ho (wanted_none rfl) 59 #[.string key] (by simp [execOp, Act.eval, h11, resolve, go_sem]) ((CH.out _).mono (by rintro e w7 ⟨rfl, hb7⟩; exact ⟨_, rfl, _, rfl, hb7, by rintro t' ⟨⟩; rfl⟩))
    | 6, ho =>
      obtain rfl := Option.some.inj ho
      obtain ⟨_, h10, rfl⟩ := given_fed hg 10 (by decide +kernel)
      obtain ⟨_, h12, rfl⟩ := given_fed hg 12 (by decide +kernel)
      clear hg
      exact st_enter (w1 := w6) ho (wanted_none rfl) 63 #[.pointer (some ⟨d, 0, none⟩), .int .u64 (hk : Int)] (by simp [execOp, Act.eval, h10, h12, resolve, go_sem]) ((CF.out w6 hb6).mono (by rintro e w7 ⟨v', rfl, hown, hb7⟩; exact ⟨v', rfl, _, rfl, hb7, by rintro t' ⟨⟩; exact hown⟩))
    | 7, ho =>
      obtain rfl := Option.some.inj ho
      obtain ⟨v13, h13, p13⟩ := given_fed hg 13 (by decide +kernel)
      clear hg
      obtain ⟨a, cap, rfl, -⟩ := p13.form
      exact st_yield ho (wanted_none rfl) (.int .i64 (F.length : Int)) w6 (by simp [execOp, Act.eval, h13, resolve, go_sem]) ⟨_, rfl, Below.refl _ _, by rintro t' ⟨⟩; rfl⟩
    | 8, ho =>
      obtain rfl := Option.some.inj ho
      clear hg
      exact st_yield ho (wanted_none rfl) (.int .i64 0) w6 (by simp [execOp, Act.eval, go_sem]) ⟨_, rfl, Below.refl _ _, by rintro t' ⟨⟩; rfl⟩
    | n + 9, ho => simp at ho
  · intro f w6 hb6 hv
    have h13 := hv 13 (by decide)
    have h14 := hv 14 (by decide)
    have h15 := hv 15 (by decide)
    simp only [VLf] at h13 h14 h15
    obtain ⟨g, cg, hf13, hmF⟩ := h13.form
    rw [hf13] at h13
    have HF := Go.Lib.hid h13
    have HB6 := Go.Lib.hid hb6
    clear hv h13 CF CH
    unfold putAll
    simp only [List.foldl]
    simp only [hf13, h14, h15]
    go_simp
    clear hf13 h14 h15 hb6
    go_wp2_with fail
    go_loopw [6, 15] (fun _ ki wr => ∃ k : Nat, k ≤ F.length ∧ ki = .int .i64 (k : Int) ∧ Hid (∀ j (hj : j < F.length), j < k → ∀ i (hi : i < L.length), F[j] = (i : Int) → L[i].1 ≠ key) ∧ Hid (Below w6.heap.size w6 wr)) (fun _ ki _ => F.length - (intOf ki).toNat)
    case atStart => exact ⟨0, by omega, rfl, Go.Lib.hid fun j hj h => absurd h (by omega), Go.Lib.hid (Below.refl _ _)⟩
    case round =>
      obtain ⟨k, hk2, rfl, HNO, HB⟩ := hrel
      by_cases hlt : k < F.length
      · obtain ⟨b, o, rfl, -, -, c0⟩ := KI.at' (HF.out.below HB.out) k hlt
        have hix := idxI b o F.length cg k hlt
        obtain ⟨i, hi, hz, -⟩ := HM.out _ (List.getElem_mem hlt)
        have HBW := Go.Lib.hid (HB6.out.trans (HB.out.mono HB6.out.size))
        obtain ⟨b2, o2, rfl, -, -, d0, -⟩ := (HR.out.below HBW.out).at i hi
        have x1 := keepC X1.out HBW.out
        have hix2 := run_idx5 b2 o2 L.length cap i hi
        have HST := Go.Lib.hid (show L[i].1 ≠ key → ∀ j (hj : j < F.length), j < k + 1 → ∀ i (hi : i < L.length), F[j] = (i : Int) → L[i].1 ≠ key from fun hne j hj hjk i' hi' he => by
          rcases Nat.lt_or_ge j k with h | h
          · exact HNO.out j hj h i' hi' he
          · obtain rfl : j = k := by omega
            rw [hz] at he
            obtain rfl : i = i' := by omega
            exact hne)
        rw [hz] at c0
        have HYES := Go.Lib.hid (fun (hy : L[i].1 = key) => show ∃ i', ∃ h : i' < L.length, L[i'].1 = key ∧ (i : Int) = (i' : Int) from ⟨i, hi, hy, rfl⟩)
        have HZ := Go.Lib.hid hz
        clear hz HNO
        generalize hx : L[i].1 = kx at *
        by_cases hq : kx.toList = key.toList
        · have HY := Go.Lib.hid (HYES.out (ByteArray.ext (Array.toList_inj.1 (by rw [← ByteArray.toList_eq, ← ByteArray.toList_eq]; exact hq))))
          have hqb : (kx.toList == key.toList) = true := beq_iff_eq.2 hq
          go_wp2_with fail
          go_ret
          obtain ⟨i', h1, h2, h3⟩ := HY.out
          exact ⟨.inl ⟨i', h1, h2, by rw [h3]; rfl⟩, HBW.out⟩
        · have HS := Go.Lib.hid (HST.out (fun e => hq (by rw [e])))
          have hqb : (kx.toList == key.toList) = false := beq_eq_false_iff_ne.2 hq
          go_wp2_with fail
          exact ⟨⟨k + 1, by omega, by go_num, HS, HB⟩, by simp only [intOf]; omega⟩
      · obtain rfl : k = F.length := by omega
        have HNN := Go.Lib.hid (show ∀ x ∈ L, x.1 ≠ key from fun x hx e => by
          obtain ⟨i, hi, rfl⟩ := List.getElem_of_mem hx
          obtain ⟨j, hj, hjz⟩ := List.getElem_of_mem (HH.out i hi e)
          exact HNO.out j hj hj i hi hjz e)
        have HBW := Go.Lib.hid (HB6.out.trans (HB.out.mono HB6.out.size))
        go_wp2_with fail
        go_ret
        exact ⟨.inr ⟨HNN.out, rfl⟩, HBW.out⟩

end Go.Proofs.YthbnecdeebmlhaaGreat

namespace Go.Proofs.YthbnecdeebmlhaaGreat
open Go.RowKit

def K5 : Lay RecT := ⟨rc5, 5, 28, 22, .agg #[.string ⟨#[]⟩, .bool false, .int .i64 0, .int .i64 0, .string ⟨#[]⟩], 56⟩
theorem K5_ok : K5.Ok Tryz.prog := ⟨by decide, fun _ => rfl, fun x u hu => by
  have hu : u ∈ rc5 x := hu
  simp only [rc5, List.mem_cons, List.not_mem_nil, or_false] at hu
  rcases hu with rfl | rfl | rfl | rfl | rfl <;> rfl, Tryz.underlying22, info5, rfl, by decide⟩
theorem K5.row1 {w : World} {g : Nat} {x : RecT} {t : TypeId} {fr : Nat × Nat} (h : w.heap[g]? = some (.cells (rc5 x).toArray t fr)) : K5.R w (.slice (some ⟨g, 0, none⟩) 1 1) [x] := by
  refine ⟨some ⟨g, 0, none⟩, 1, rfl, Nat.le_refl _, by simp [maxLen], (fun h => by cases h), fun _ => ⟨g, 0, rfl, fun j u hj => ?_⟩⟩
  rw [cell_of_row _ g (0 + j) _ _ _ h, Nat.zero_add, List.getElem?_toArray]
  rw [Lay.flat_cons, Lay.flat_nil, List.append_nil] at hj
  exact hj
theorem own_form {w : World} {B : Nat} {v : Value} {L : List RecT} (h : OwnRec w B v L) (hl : L ≠ []) : ∃ g cap, v = .slice (some ⟨g, 0, none⟩) L.length cap ∧ g < w.heap.size := by
  obtain ⟨g, cap, h1, -, h2, -⟩ := Lay.O.form (K := K5) h hl
  exact ⟨g, cap, h1, h2⟩
theorem own_slice {w : World} {B : Nat} {v : Value} {L : List RecT} (h : OwnRec w B v L) : ∃ a n c, v = .slice a n c := by
  obtain ⟨a, cap, rfl, -⟩ := h.rs.form
  exact ⟨_, _, _, rfl⟩

end Go.Proofs.YthbnecdeebmlhaaGreat

namespace Go.Proofs.YthbnecdeebmlhaaGreat
open Go.Maps

/-- A record's key, as a map's. -/
def klit (x : RecT) : Lit := .string x.1.data.toList
/-- Behind n records. -/
def mapD (H : Type) (l : List RecT) : Nat → DataW H
  | 0 => .map []
  | n + 1 => (mapD H l n).put (klit (l.getD n default)) (.lit (.int .i64 (n : Int)))

theorem keyR_data (x : RecT) : keyR x = x.1.data.toList := by unfold keyR; rw [ByteArray.toList_eq]

section
variable {H : Type} {l : List RecT}
theorem mapD_isMap : ∀ n, IsMap (mapD H l n)
  | 0 => isMap_empty
  | n + 1 => (mapD_isMap n).put _ _
theorem mapD_succ (n : Nat) (h : n < l.length) : mapD H l (n + 1) = (mapD H l n).put (.string l[n].1.data.toList) (.lit (.int .i64 (n : Int))) := by
  rw [mapD]
  unfold klit
  rw [List.getD, List.getElem?_eq_getElem h]
  rfl
theorem mapD_has (k : List UInt8) : ∀ n, n ≤ l.length → (has (mapD H l n) (.string k) = true ↔ ∃ x ∈ l.take n, x.1.data.toList = k)
  | 0, _ => by
    constructor
    · intro h; cases h
    · rintro ⟨x, hx, -⟩; simp at hx
  | n + 1, h => by
    have hlt : n < l.length := h
    have ih := mapD_has k n (by omega)
    rw [mapD_succ n hlt, List.take_succ_eq_append_getElem hlt]
    by_cases e : k = l[n].1.data.toList
    · subst e
      rw [has_put_same (mapD_isMap n) (show WideAt.IsKeyLit (.string _) from trivial)]
      exact ⟨fun _ => ⟨l[n], List.mem_append_right _ (List.mem_singleton.2 rfl), rfl⟩, fun _ => rfl⟩
    · rw [has_put_other (fun h => e (by simpa using h)), ih]
      constructor
      · rintro ⟨x, hx, hk⟩; exact ⟨x, List.mem_append_left _ hx, hk⟩
      · rintro ⟨x, hx, hk⟩
        rcases List.mem_append.1 hx with hx | hx
        · exact ⟨x, hx, hk⟩
        · simp at hx
          subst hx
          exact absurd hk.symm e
theorem mapD_at (k : List UInt8) : ∀ n, n ≤ l.length → has (mapD H l n) (.string k) = true →
    ∃ i, ∃ hi : i < l.length, (∀ z, (mapD H l n).atKey (.string k) z = .lit (.int .i64 (i : Int))) ∧ findK keyR (l.take n).reverse k = some l[i] ∧ keyR l[i] = k
  | 0, _, h => by cases h
  | n + 1, h, hh => by
    have hlt : n < l.length := h
    rw [mapD_succ n hlt] at hh ⊢
    rw [List.take_succ_eq_append_getElem hlt, List.reverse_append]
    by_cases e : k = l[n].1.data.toList
    · refine ⟨n, hlt, fun z => ?_, ?_, (keyR_data _).trans e.symm⟩
      · rw [← e, atKey_put_same (mapD_isMap n) (show WideAt.IsKeyLit (.string _) from trivial)]
      · unfold findK
        simp [keyR_data, e]
    · rw [has_put_other (fun h => e (by simpa using h))] at hh
      obtain ⟨i, hi, h1, h2, h3⟩ := mapD_at k n (by omega) hh
      refine ⟨i, hi, fun z => ?_, ?_, h3⟩
      · rw [atKey_put_other (fun h => e (by simpa using h))]
        exact h1 z
      · unfold findK at h2 ⊢
        rw [List.reverse_singleton, List.singleton_append, List.find?_cons]
        have : ¬ keyR l[n] = k := by rw [keyR_data]; exact fun h => e h.symm
        simp [this, h2]
end

/-- The order of bytes, as the library sorts. -/
theorem less_of_le : ∀ x y : List UInt8, x ≤ y → x ≠ y → Go.Op.bytesLess x y = true := by
  intro x y h hne
  rcases less_tri x y with g | g | g
  · exact g
  · exact absurd g hne
  · exfalso
    have hlt : ∀ x y : List UInt8, Go.Op.bytesLess x y = true → x < y := by
      intro x
      induction x with
      | nil =>
        intro y h
        cases y with
        | nil => cases h
        | cons b y => exact List.nil_lt_cons ..
      | cons a x ih =>
        intro y h
        cases y with
        | nil => cases h
        | cons b y =>
          simp only [Go.Op.bytesLess, Bool.or_eq_true, decide_eq_true_eq, Bool.and_eq_true, beq_iff_eq] at h
          rw [List.cons_lt_cons_iff]
          rcases h with h | ⟨rfl, h⟩
          · exact .inl h
          · exact .inr ⟨rfl, ih y h⟩
    exact absurd (hlt y x g) (List.not_lt.2 h)

/-- Of each key of a sorted row of all keys the record that stood last. -/
def pickR (l : List RecT) (k : List UInt8) : RecT := (findK keyR l.reverse k).getD default

theorem newest_of_keys (l : List RecT) (ss : List (List UInt8)) (hs : ss.Nodup) (hm : ∀ k, k ∈ ss ↔ ∃ x ∈ l, x.1.data.toList = k) :
    (ss.mergeSort (fun x y => decide (x ≤ y))).map (pickR l) = newestR l := by
  have hp : ∀ k, k ∈ ss.mergeSort (fun x y => decide (x ≤ y)) ↔ ∃ x ∈ l, x.1.data.toList = k := fun k => ((List.mergeSort_perm ss _).mem_iff).trans (hm k)
  have hnd : (ss.mergeSort (fun x y => decide (x ≤ y))).Nodup := (List.mergeSort_perm ss _).nodup_iff.2 hs
  have hpw := List.pairwise_mergeSort (le := fun x y : List UInt8 => decide (x ≤ y)) (fun a b c h1 h2 => by simp only [decide_eq_true_eq] at *; exact List.le_trans h1 h2) (fun a b => by simp only [Bool.or_eq_true, decide_eq_true_eq]; exact List.le_total a b) ss
  generalize ss.mergeSort (fun x y => decide (x ≤ y)) = ks at *
  have hk : ∀ k ∈ ks, ∃ x, findK keyR l.reverse k = some x ∧ keyR x = k := by
    intro k h
    obtain ⟨x, hx, hxk⟩ := (hp k).1 h
    have hsome : (findK keyR l.reverse k).isSome = true := List.find?_isSome.2 ⟨x, by simpa using hx, by simp [keyR_data, hxk]⟩
    obtain ⟨y, hy⟩ := Option.isSome_iff_exists.1 hsome
    have hy2 := List.find?_some hy
    exact ⟨y, hy, by simpa using hy2⟩
  have hpick : ∀ k ∈ ks, findK keyR l.reverse k = some (pickR l k) ∧ keyR (pickR l k) = k := by
    intro k h
    obtain ⟨x, h1, h2⟩ := hk k h
    unfold pickR
    rw [h1]
    exact ⟨rfl, h2⟩
  refine newestK_of ordR l _ ?_ fun k => ?_
  · unfold Rising
    rw [List.pairwise_map]
    refine (hpw.and hnd).imp_of_mem ?_
    intro a b ha hb h
    rw [(hpick a ha).2, (hpick b hb).2]
    exact less_of_le a b (by simpa using h.1) h.2
  · by_cases hin : k ∈ ks
    · rw [(hpick k hin).1]
      unfold findK
      have : ∀ ks : List (List UInt8), k ∈ ks → (∀ k' ∈ ks, keyR (pickR l k') = k') → List.find? (fun x => decide (keyR x = k)) (ks.map (pickR l)) = some (pickR l k) := by
        intro ks
        induction ks with
        | nil => intro h _; cases h
        | cons a t ih =>
          intro h hh
          rw [List.map_cons, List.find?_cons, hh a (List.mem_cons_self ..)]
          by_cases ha : a = k
          · subst ha; simp
          · simp only [ha, decide_false]
            exact ih (by rcases List.mem_cons.1 h with h | h; exact absurd h.symm ha; exact h) fun k' hk' => hh k' (List.mem_cons_of_mem _ hk')
      exact this ks hin fun k' hk' => (hpick k' hk').2
    · have h1 : findK keyR l.reverse k = none := by
        unfold findK
        rw [List.find?_eq_none]
        intro x hx
        simp only [decide_eq_true_eq]
        intro e
        exact hin ((hp k).2 ⟨x, by simpa using hx, by rw [← keyR_data]; exact e⟩)
      rw [h1]
      unfold findK
      rw [List.find?_eq_none]
      intro x hx
      obtain ⟨k', hk', rfl⟩ := List.mem_map.1 hx
      simp only [decide_eq_true_eq]
      rw [(hpick k' hk').2]
      rintro rfl
      exact hin hk'

section
variable {H : Type} {P : Program} {k : TypeId} {R : Value → Option (DataW H × List MemPlace)} {w : World} {b n : Nat} {l : List RecT}
/-- The keys that stand in the map. -/
theorem strKeys_mapD (hown : w.ownsMap P k R b n (mapD H l l.length)) (K : Keyed P k) (hk : P.underlying k = some .string) :
    (strKeys (mapD H l l.length)).Nodup ∧ ∀ x, x ∈ strKeys (mapD H l l.length) ↔ ∃ y ∈ l, y.1.data.toList = x := by
  obtain ⟨es, hD, hpw, -⟩ := hown.entries K
  obtain ⟨es', hD', hko⟩ := hown.keysOf
  obtain rfl : es = es' := by rw [hD] at hD'; simpa using hD'
  have hstr : ∀ p ∈ es, ∃ x, p.1 = .string x := fun p hp => by
    obtain ⟨v, hv⟩ := hko p hp
    obtain ⟨x, -, hx, -⟩ := Maps.keyOf_str hk hv
    exact ⟨x, hx⟩
  have hh := fun x => mapD_has (H := H) (l := l) x l.length (Nat.le_refl _)
  rw [List.take_of_length_le (Nat.le_refl _)] at hh
  rw [hD] at hh ⊢
  refine ⟨?_, fun x => (Iff.trans ?_ (hh x))⟩
  · show (es.map fun p => strOf p.1).Nodup
    refine List.pairwise_map.2 (hpw.imp_of_mem fun {p q} hp' hq' hne e => hne ?_)
    obtain ⟨a, ha⟩ := hstr p hp'
    obtain ⟨c, hc⟩ := hstr q hq'
    rw [ha, hc] at e ⊢
    exact congrArg _ e
  · rw [has_eq, List.any_eq_true]
    show x ∈ (es.map fun p => strOf p.1) ↔ _
    rw [List.mem_map]
    constructor
    · rintro ⟨p, hp', rfl⟩
      obtain ⟨a, ha⟩ := hstr p hp'
      exact ⟨p, hp', by rw [ha]; simp [Lit.sameKey, strOf]⟩
    · rintro ⟨p, hp', hs⟩
      obtain ⟨a, ha⟩ := hstr p hp'
      rw [ha] at hs
      exact ⟨p, hp', by rw [ha]; simpa [Lit.sameKey, strOf] using hs⟩
end

end Go.Proofs.YthbnecdeebmlhaaGreat

namespace Go.Proofs.YthbnecdeebmlhaaGreat
open Go.RowKit Go.Maps Go.Sort Go.Shelf
def keysL_ren : Go.Shelf.Ren := ⟨fun | 7 => 100 | 10 => 126 | n => n, fun | 23 => 152 | 26 => 9 | 3 => 3 | 28 => 155 | 0 => 0 | 27 => 154 | 33 => 112 | 4 => 4 | n => n, fun | n => n⟩
theorem keysL : Go.Proofs.SlLaysZ.n7 Tryz.prog keysL_ren := {
  mixed := by kernel_rfl
  f7 := ⟨Tryz.f100.name, by decide, Tryz.func100.trans (congrArg some (by kernel_rfl))⟩
  f10 := ⟨Tryz.f126.name, by decide, Tryz.func126.trans (congrArg some (by kernel_rfl))⟩
  t0 := Tryz.underlying0
  a0 := Tryz.isAgg0
  z0 := Tryz.sizeOf0
  v0 := Tryz.zeroValue0
  t4 := Tryz.underlying4
  a4 := Tryz.isAgg4
  z4 := Tryz.sizeOf4
  v4 := Tryz.zeroValue4
  t23 := Tryz.underlying152
  a23 := Tryz.isAgg152
  z23 := Tryz.sizeOf152
  v23 := Tryz.zeroValue152
  t26 := Tryz.underlying9
  a26 := Tryz.isAgg9
  z26 := Tryz.sizeOf9
  v26 := Tryz.zeroValue9
  t27 := Tryz.underlying154
  a27 := Tryz.isAgg154
  z27 := Tryz.sizeOf154
  v27 := Tryz.zeroValue154
  t28 := Tryz.underlying155
  a28 := Tryz.isAgg155
  z28 := Tryz.sizeOf155
  v28 := Tryz.zeroValue155
  t33 := Tryz.underlying112
  a33 := Tryz.isAgg112
  z33 := Tryz.sizeOf112
  v33 := Tryz.zeroValue112 }
def sortedL_ren : Go.Shelf.Ren := ⟨fun | 6 => 99 | 8 => 124 | 9 => 125 | 11 => 140 | 13 => 128 | 12 => 141 | 23 => 151 | 24 => 132 | 14 => 158 | 15 => 159 | 16 => 160 | 17 => 161 | 18 => 162 | 19 => 163 | 20 => 164 | 21 => 165 | 22 => 166 | 25 => 176 | 26 => 168 | 27 => 169 | 28 => 177 | 29 => 178 | 30 => 179 | 31 => 182 | n => n, fun | 26 => 9 | 28 => 155 | 24 => 91 | 0 => 0 | 3 => 3 | 37 => 117 | 48 => 209 | 50 => 74 | 4 => 4 | 40 => 201 | 39 => 200 | 45 => 206 | 5 => 5 | 9 => 9 | 51 => 218 | 55 => 222 | 57 => 227 | 58 => 146 | 33 => 112 | n => n, fun | n => n⟩
theorem sortedL : Go.Proofs.SlLaysZ.n6 Tryz.prog sortedL_ren := {
  mixed := by kernel_rfl
  f6 := ⟨Tryz.f99.name, by decide, Tryz.func99.trans (congrArg some (by kernel_rfl))⟩
  f8 := ⟨Tryz.f124.name, by decide, Tryz.func124.trans (congrArg some (by kernel_rfl))⟩
  f11 := ⟨Tryz.f140.name, by decide, Tryz.func140.trans (congrArg some (by kernel_rfl))⟩
  t0 := Tryz.underlying0
  a0 := Tryz.isAgg0
  z0 := Tryz.sizeOf0
  v0 := Tryz.zeroValue0
  t24 := Tryz.underlying91
  a24 := Tryz.isAgg91
  z24 := Tryz.sizeOf91
  v24 := Tryz.zeroValue91
  t26 := Tryz.underlying9
  a26 := Tryz.isAgg9
  z26 := Tryz.sizeOf9
  v26 := Tryz.zeroValue9
  t28 := Tryz.underlying155
  a28 := Tryz.isAgg155
  z28 := Tryz.sizeOf155
  v28 := Tryz.zeroValue155
  i26 := by kernel_rfl }
def sortL_ren : Go.Shelf.Ren := ⟨fun | 6 => 125 | 8 => 128 | 9 => 141 | 19 => 151 | 20 => 132 | 21 => 158 | 22 => 159 | 23 => 160 | 24 => 161 | 25 => 162 | 26 => 163 | 27 => 164 | 28 => 165 | 29 => 166 | 36 => 176 | 31 => 168 | 32 => 169 | 37 => 177 | 38 => 178 | 39 => 179 | 41 => 182 | n => n, fun | 27 => 91 | 29 => 9 | 3 => 3 | 32 => 117 | 26 => 91 | 0 => 0 | 44 => 209 | 46 => 74 | 4 => 4 | 36 => 201 | 35 => 200 | 41 => 206 | 5 => 5 | 9 => 9 | 53 => 218 | 57 => 222 | 63 => 227 | 64 => 146 | n => n, fun | n => n⟩
theorem sortL : Go.Proofs.SlLaysM.n6 Tryz.prog sortL_ren := {
  mixed := by kernel_rfl
  f6 := ⟨Tryz.f125.name, by decide, Tryz.func125.trans (congrArg some (by kernel_rfl))⟩
  f8 := Tryz.func128.trans (congrArg some (by kernel_rfl))
  f9 := ⟨Tryz.f141.name, by decide, Tryz.func141.trans (congrArg some (by kernel_rfl))⟩
  f19 := Tryz.func151.trans (congrArg some (by kernel_rfl))
  f20 := Tryz.func132.trans (congrArg some (by kernel_rfl))
  f21 := ⟨Tryz.f158.name, by decide, Tryz.func158.trans (congrArg some (by kernel_rfl))⟩
  f22 := ⟨Tryz.f159.name, by decide, Tryz.func159.trans (congrArg some (by kernel_rfl))⟩
  f23 := ⟨Tryz.f160.name, by decide, Tryz.func160.trans (congrArg some (by kernel_rfl))⟩
  f24 := ⟨Tryz.f161.name, by decide, Tryz.func161.trans (congrArg some (by kernel_rfl))⟩
  f25 := ⟨Tryz.f162.name, by decide, Tryz.func162.trans (congrArg some (by kernel_rfl))⟩
  f26 := ⟨Tryz.f163.name, by decide, Tryz.func163.trans (congrArg some (by kernel_rfl))⟩
  f27 := ⟨Tryz.f164.name, by decide, Tryz.func164.trans (congrArg some (by kernel_rfl))⟩
  f28 := ⟨Tryz.f165.name, by decide, Tryz.func165.trans (congrArg some (by kernel_rfl))⟩
  f29 := ⟨Tryz.f166.name, by decide, Tryz.func166.trans (congrArg some (by kernel_rfl))⟩
  f31 := Tryz.func168.trans (congrArg some (by kernel_rfl))
  f32 := Tryz.func169.trans (congrArg some (by kernel_rfl))
  f36 := ⟨Tryz.f176.name, by decide, Tryz.func176.trans (congrArg some (by kernel_rfl))⟩
  f37 := ⟨Tryz.f177.name, by decide, Tryz.func177.trans (congrArg some (by kernel_rfl))⟩
  f38 := ⟨Tryz.f178.name, by decide, Tryz.func178.trans (congrArg some (by kernel_rfl))⟩
  f39 := ⟨Tryz.f179.name, by decide, Tryz.func179.trans (congrArg some (by kernel_rfl))⟩
  f41 := ⟨Tryz.f182.name, by decide, Tryz.func182.trans (congrArg some (by kernel_rfl))⟩
  t0 := Tryz.underlying0
  a0 := Tryz.isAgg0
  z0 := Tryz.sizeOf0
  v0 := Tryz.zeroValue0
  t3 := Tryz.underlying3
  a3 := Tryz.isAgg3
  z3 := Tryz.sizeOf3
  v3 := Tryz.zeroValue3
  t4 := Tryz.underlying4
  a4 := Tryz.isAgg4
  z4 := Tryz.sizeOf4
  v4 := Tryz.zeroValue4
  t5 := Tryz.underlying5
  a5 := Tryz.isAgg5
  z5 := Tryz.sizeOf5
  v5 := Tryz.zeroValue5
  t9 := Tryz.underlying9
  a9 := Tryz.isAgg9
  z9 := Tryz.sizeOf9
  v9 := Tryz.zeroValue9
  t26 := Tryz.underlying91
  a26 := Tryz.isAgg91
  z26 := Tryz.sizeOf91
  v26 := Tryz.zeroValue91
  t27 := Tryz.underlying91
  a27 := Tryz.isAgg91
  z27 := Tryz.sizeOf91
  v27 := Tryz.zeroValue91
  t29 := Tryz.underlying9
  a29 := Tryz.isAgg9
  z29 := Tryz.sizeOf9
  v29 := Tryz.zeroValue9
  t32 := Tryz.underlying117
  a32 := Tryz.isAgg117
  z32 := Tryz.sizeOf117
  v32 := Tryz.zeroValue117
  t35 := Tryz.underlying200
  a35 := Tryz.isAgg200
  z35 := Tryz.sizeOf200
  v35 := Tryz.zeroValue200
  t36 := Tryz.underlying201
  a36 := Tryz.isAgg201
  z36 := Tryz.sizeOf201
  v36 := Tryz.zeroValue201
  t41 := Tryz.underlying206
  a41 := Tryz.isAgg206
  z41 := Tryz.sizeOf206
  v41 := Tryz.zeroValue206
  t44 := Tryz.underlying209
  a44 := Tryz.isAgg209
  z44 := Tryz.sizeOf209
  v44 := Tryz.zeroValue209
  t46 := Tryz.underlying74
  a46 := Tryz.isAgg74
  z46 := Tryz.sizeOf74
  v46 := Tryz.zeroValue74
  t53 := Tryz.underlying218
  a53 := Tryz.isAgg218
  z53 := Tryz.sizeOf218
  v53 := Tryz.zeroValue218
  t57 := Tryz.underlying222
  a57 := Tryz.isAgg222
  z57 := Tryz.sizeOf222
  v57 := Tryz.zeroValue222
  t63 := Tryz.underlying227
  a63 := Tryz.isAgg227
  z63 := Tryz.sizeOf227
  v63 := Tryz.zeroValue227
  t64 := Tryz.underlying146
  a64 := Tryz.isAgg146
  z64 := Tryz.sizeOf146
  v64 := Tryz.zeroValue146 }

theorem sorts_any (m : Nat) : AnyZ.SortsIn Tryz.prog sortedL_ren Fence.wide m :=
  ⟨fun blk off cap ss W hH hblk hsz => callsIn_wide.2 (AnyM.slices_Sort_string sortL blk off cap ss W hH hblk hsz),
   fun p cap W => callsIn_wide.2 (AnyM.slices_Sort_string_none sortL p cap W)⟩

/-- maps.Keys: a function over a new block that holds the map. -/
theorem mkeys_c (b : Nat) (W : World) : Calls Tryz.prog 100 #[.map (some b)] W fun e w' => e = .returned (.func (.func 126) #[] #[.pointer (some ⟨W.heap.size, 0, none⟩)]) ∧ w' = W.alloc (.cells #[.map (some b)] 152) :=
  callsIn_wide.1 (AnyZ.keys_in keysL Fence.wide 5 trivial rfl (some b) W)

set_option maxHeartbeats 1000000 in
/-- slices.Sorted of what maps.Keys answered. -/
theorem sortedk_c {H : Type} (b nn : Nat) (D0 : DataW H) (R : Value → Option (DataW H × List MemPlace)) (w : World) (hown : w.ownsMap Tryz.prog 9 R b nn D0) (hmax : Maps.size D0 ≤ maxLen) (hbytes : Maps.size D0 * 16 ≤ 140737488355328) :
    Calls Tryz.prog 99 #[.func (.func 126) #[] #[.pointer (some ⟨w.heap.size, 0, none⟩)]] (w.alloc (.cells #[.map (some b)] 152)) fun e w' => ∃ (v : Value) (ss : List (List UInt8)), e = .returned v ∧ ss.Perm (strKeys D0) ∧
      w'.ownsRow (w.alloc (.cells #[.map (some b)] 152)).heap.size 9 1 v ss.length ((ss.mergeSort (fun x y => decide (x ≤ y))).map encStr) ∧ Below (w.alloc (.cells #[.map (some b)] 152)).heap.size (w.alloc (.cells #[.map (some b)] 152)) w' := by
  have hbl := hown.lt
  have hseq : SeqGives Fence.wide 2 Tryz.prog 126 #[.pointer (some ⟨w.heap.size, 0, none⟩)] encStr (fun ss => ss.Perm (strKeys D0)) (Maps.size D0) (w.alloc (.cells #[.map (some b)] 152)) :=
    AnyZ.keys_gives (ρ := keysL_ren) { keysL with } Fence.wide _ trivial rfl (by omega) w.heap.size b nn D0 _ (by simp) (by simp) (by
      obtain ⟨es, clock, hb, Ft, hs, hD⟩ := hown
      exact ⟨es, clock, (Below.heap_alloc _ _ b hbl).trans hb, Ft, hs, hD⟩)
  have h := AnyZ.sorted_in sortedL Fence.wide 5 trivial trivial trivial trivial rfl (by omega) (sorts_any _) (enters_of Tryz.func125 (by kernel_rfl) rfl) 126 #[.pointer (some ⟨w.heap.size, 0, none⟩)] trivial (enters_of Tryz.func126 (by kernel_rfl) rfl) _ _ hmax hbytes _ hseq
  refine (callsIn_wide.1 h).mono ?_
  rintro e w' ⟨v, ss, he, hp, hrow, -, hb⟩
  exact ⟨v, ss, he, hp, hrow, hb⟩

end Go.Proofs.YthbnecdeebmlhaaGreat

namespace Go.Proofs.YthbnecdeebmlhaaGreat
open Go.RowKit Go.Op Go.Maps Go.WideMaps

theorem mlaw : Keyed Tryz.prog 9 := string_keyed Tryz.underlying9
theorem mzero (w : World) : (zeroValue 3).run Tryz.prog w = .ok (.int .i64 0) w := by kernel_rfl

theorem grown_then {w w1 w2 : World} {row : Option Nat} (h : w.grownBy w1 row) (hb : Below w1.heap.size w1 w2) : w.grownBy w2 row :=
  ⟨hb.os.trans h.os, hb.tape.trans h.tape, hb.output.trans h.output, Nat.le_trans h.size hb.size, fun k hk hne => (hb.block k (Nat.lt_of_lt_of_le hk h.size)).trans (h.block k hk hne)⟩

/-- A sorted row of keys, as the walk reads it. -/
theorem keys_row {w : World} {B n : Nat} {v : Value} {ks : List (List UInt8)} (hn : ks.length = n) (h : w.ownsRow B 9 1 v n (ks.map Go.Proofs.encStr)) :
    ∃ a cap, v = .slice a n cap ∧ ∀ j (hj : j < ks.length), ∃ g, a = some ⟨g, 0, none⟩ ∧ B ≤ g ∧ w.cell? ⟨g, j, none⟩ = some (.string (str ks[j])) := by
  subst hn
  rcases h.2 with ⟨rfl, hz⟩ | ⟨g, cap, cur, rfl, hB, h1⟩
  · obtain rfl : ks = [] := List.eq_nil_of_length_eq_zero hz
    exact ⟨none, 0, rfl, fun j hj => absurd hj (by simp)⟩
  · refine ⟨_, cap, rfl, fun j hj => ⟨g, rfl, hB, ?_⟩⟩
    rw [World.ownsRow.cellAt h j (by omega), List.getElem?_map, List.getElem?_eq_getElem hj]
    rfl

/-- One record in a new block. -/
theorem rc5_new (W : World) (x : RecT) : ∀ (q : Nat) (u : Value), (rc5 x)[q]? = some u → (W.alloc (.cells #[.string x.1, .bool x.2.1, .int .i64 x.2.2.1, .int .i64 x.2.2.2.1, .string x.2.2.2.2] 28)).cell? ((⟨W.heap.size, 0, none⟩ : Addr).add q) = some u := by
  intro q u h
  have hadd : (⟨W.heap.size, 0, none⟩ : Addr).add q = ⟨W.heap.size, 0 + q, none⟩ := by unfold Addr.add; split <;> simp_all
  rw [hadd, Nat.zero_add]
  rw [cell_of_row _ W.heap.size q _ _ _ (heap_alloc_new W (.cells #[.string x.1, .bool x.2.1, .int .i64 x.2.2.1, .int .i64 x.2.2.2.1, .string x.2.2.2.2] 28))]
  rw [← h]
  unfold rc5
  exact List.getElem?_toArray
theorem own_snoc {w : World} {B j : Nat} {v : Value} {acc : List RecT} {x : RecT} (hal : acc.length = j) (h : w.ownsRow B 28 5 v (j + 1) (flat5 acc ++ rc5 x)) : OwnRec w B v (acc ++ [x]) := by
  subst hal
  unfold OwnRec
  rw [List.length_append]
  unfold flat5 at *
  rw [List.flatMap_append]
  simpa using h

set_option maxHeartbeats 4000000 in
set_option maxRecDepth 100000 in
theorem pnewest_c (v : Value) (l : List RecT) (w : World) (hv : RS w v l) (hl : l.length ≤ 1000) (hs : ∀ x ∈ l, x.1.size ≤ 1000 ∧ x.2.2.2.2.size ≤ 1000) :
    Calls Tryz.prog 61 #[v] w fun e w' => ∃ v', e = .returned v' ∧ OwnRec w' w.heap.size v' (newestR l) ∧ Below w.heap.size w w' := by
  obtain ⟨a, cap, rfl, hm⟩ := hv.form
  have HR := Go.Lib.hid hv; clear hv
  have hmm := @run_makeMap Tryz.prog
  obtain ⟨i5, hi5, hz5, hsz5, hby5⟩ := info_parts info5
  have I5 := Go.Lib.hid (And.intro hi5 (And.intro hz5 (And.intro hsz5 hby5))); clear hi5 hz5 hsz5 hby5
  go_enter Tryz.func61, Tryz.ntmps61
  go_wp2_with fail
  go_loopw [12] (fun i wr => ∃ k : Nat, k ≤ l.length ∧ i = .int .i64 (k : Int) ∧ wr.ownsMap Tryz.prog 9 (plainElem Tryz.prog 3) w.heap.size k (mapD Unit l k) ∧ Below w.heap.size w wr) (fun i _ => l.length - (intOf i).toNat)
  case atStart => exact ⟨0, Nat.zero_le _, rfl, World.ownsMap_made _ _ _ _, (Below.refl _ _).alloc (Nat.le_refl _) _⟩
  case round =>
    obtain ⟨k, hk, rfl, hown, hbc⟩ := hrel
    by_cases hlt : k < l.length
    · obtain ⟨b, o, rfl, -, hbs, c0, c1, c2, c3, c4⟩ := (HR.out.below hbc).at k hlt
      have hx := (hs l[k] (List.getElem_mem hlt)).1
      have Hst := Go.Lib.hid (mapD_succ (H := Unit) k hlt)
      have hix := run_idx5 b o l.length cap k hlt
      generalize l[k] = x at *
      obtain ⟨kx, gx, ax, nx, sx⟩ := x
      simp only [] at c0 c1 c2 c3 c4 hx Hst
      have hkey : keyOf Tryz.prog 9 (.string kx) = some (.string kx.data.toList) := keyOf_string_mk Tryz.underlying9 (by unfold maxLen; omega)
      have hwf : (Lit.int .i64 (k : Int)).wf = true := by
        rw [show (k : Int) = wrap64 (k : Int) from by unfold wrap64; omega]
        exact wrap64_wf _
      have hown2 := hown.alloc (.cells #[.string kx, .bool gx, .int .i64 ax, .int .i64 nx, .string sx] 28)
      have hbc2 := hbc.trans ((below_one wr (.cells #[.string kx, .bool gx, .int .i64 ax, .int .i64 nx, .string sx] 28)).mono hbc.size)
      have Hown := Go.Lib.hid hown2
      have Hk := Go.Lib.hid (And.intro hkey hwf)
      clear hx hown hown2 hkey hwf
      go_wp2_with (first
        | (at_mapUpdate; refine wpList_mapUpdate_own _ rfl _ _ _ 152 rfl 9 3 mlaw Tryz.underlying152 _ w.heap.size k _ rfl Hown.out (by unfold maxLen; omega) _ _ _ rfl rfl Hk.out.1 _ [] (plainElem_int Tryz.underlying3 Hk.out.2) ?_; intro w1 hown1 hgrow1)
        | fail)
      rw [← Hst.out] at hown1
      have hbc3 := hbc2.grown hgrow1 hbc2.size (fun j hj => by cases hj; exact Nat.le_refl _)
      clear hgrow1 Hown Hk Hst c0 c1 c2 c3 c4 hbc hbc2 hix
      go_wp2_with fail
      exact ⟨⟨k + 1, by omega, by go_num, hown1, hbc3⟩, by simp only [intOf]; omega⟩
    · obtain rfl : k = l.length := by omega
      have hsz := hown.size_le
      have hlen := fun ty => hown.len Tryz.underlying152 ty
      have hG0 := hown.lt
      obtain ⟨hnd, hmem⟩ := strKeys_mapD hown mlaw Tryz.underlying9
      have hat := fun k h => mapD_at (H := Unit) (l := l) k l.length (Nat.le_refl _) h
      have hhas := fun k => mapD_has (H := Unit) (l := l) k l.length (Nat.le_refl _)
      rw [List.take_of_length_le (Nat.le_refl _)] at hat hhas
      have hkl : (strKeys (mapD Unit l l.length)).length = Maps.size (mapD Unit l l.length) := by
        obtain ⟨es, hD, -⟩ := hown.entries mlaw
        rw [hD]
        simp [strKeys, Maps.size]
      have hone := fun (j : Nat) (hj : j < l.length) => hs l[j] (List.getElem_mem hj)
      generalize hD : mapD Unit l l.length = D at *
      obtain ⟨M, hM⟩ : ∃ M, M = Maps.size D := ⟨_, rfl⟩
      rw [← hM] at hlen hsz hkl
      have HM := Go.Lib.hid hM; clear hM
      have Hat := Go.Lib.hid hat; clear hat
      have Hhas := Go.Lib.hid hhas; clear hhas
      have Hmem := Go.Lib.hid hmem; clear hmem
      have Hone := Go.Lib.hid hone; clear hone hs
      have Hkl := Go.Lib.hid hkl; clear hkl
      have Hnd := Go.Lib.hid hnd; clear hnd
      clear hD
      go_wp2_with (first
        | (with_reducible show wpList _ _ _ (⟨some 24, _, _, _, _, _⟩ :: _) _ _; go_loud (refine wpList_make_own _ rfl _ _ 22 rfl w.heap.size 28 i5 _ 5 Tryz.underlying22 I5.out.1 I5.out.2.1 I5.out.2.2.1 .i64 .i64 _ M rfl rfl rfl (by rw [I5.out.2.2.2]; omega) (by unfold maxLen; omega) hbc.size ?_); intro w2 hrow2 hg2)
        | fail)
      have hbc2 := hbc.grown hg2 hbc.size (fun j hj => by cases hj)
      have hown2 := hown.kept hg2 (by simp)
      have hG2 := (World.ownsRow.lt hrow2 wr.heap.size rfl).2
      have C2 := Go.Lib.hid (sortedk_c w.heap.size l.length D (plainElem Tryz.prog 3) w2 hown2 (by rw [← HM.out]; unfold maxLen; omega) (by rw [← HM.out]; omega))
      refine (mkeys_c w.heap.size w2).mono ?_
      rintro e w3 ⟨rfl, rfl⟩
      go_wp2_with fail
      refine C2.out.mono ?_
      rintro e w3 ⟨vs, ss, rfl, hp, hks, hb3⟩
      have hnew := newest_of_keys l ss (hp.nodup_iff.2 Hnd.out) (fun k => (hp.mem_iff).trans (Hmem.out k))
      have hml : M = ss.length := Hkl.out.symm.trans hp.length_eq.symm
      have hksl : (ss.mergeSort (fun x y => decide (x ≤ y))).length = M := (List.length_mergeSort ss).trans hml.symm
      have hin : ∀ k ∈ ss.mergeSort (fun x y => decide (x ≤ y)), Maps.has D (.string k) = true := fun k hk => (Hhas.out k).2 ((Hmem.out k).1 (hp.mem_iff.1 ((List.mergeSort_perm ss _).mem_iff.1 hk)))
      rw [← hml] at hks
      have hg3 := grown_then (World.grownBy_alloc w2 (.cells #[.map (some w.heap.size)] 152) none) hb3
      have hown3 := hown2.kept hg3 (by simp)
      have hbc3 := hbc2.grown hg3 hbc2.size (fun j hj => by cases hj)
      have hrec3 : OwnRec w3 w.heap.size (.slice (some ⟨wr.heap.size, 0, none⟩) 0 M) [] := OwnRec.kept (l := []) hrow2 hg3 (.inr (by simp [Value.ownBlock]))
      have hnB : wr.heap.size < (w2.alloc (.cells #[.map (some w.heap.size)] 152)).heap.size := by simp; omega
      generalize ss.mergeSort (fun x y => decide (x ≤ y)) = ks at *
      obtain ⟨a2, cap2, rfl, hrow⟩ := keys_row hksl hks
      have hfit : M ≤ M := Nat.le_refl _
      have Hnew := Go.Lib.hid hnew; clear hnew
      have Hin := Go.Lib.hid hin; clear hin
      have Hrow := Go.Lib.hid hrow; clear hrow
      have Hown3 := Go.Lib.hid hown3; clear hown3
      clear hlen hks hp hb3 hg3 hrow2 hown2 hbc2 hg2 C2 hown hbc hml Hnd Hmem Hhas Hkl hmm hfit
      have hksM := Go.Lib.hid hksl; clear hksl
      generalize wr.heap.size = G0 at *
      go_wp2_with fail
      go_loopw [6, 29] (fun vb i w4 => ∃ j : Nat, j ≤ M ∧ i = .int .i64 (j : Int) ∧ vb = .slice (some ⟨G0, 0, none⟩) j M ∧ OwnRec w4 w.heap.size vb ((ks.take j).map (pickR l)) ∧ w3.grownBy w4 (some G0)) (fun _ i _ => M - (intOf i).toNat)
      case atStart => exact ⟨0, by omega, rfl, rfl, by simpa using hrec3, World.grownBy.refl _ _⟩
      case round =>
        obtain ⟨j, hj, rfl, rfl, hown, hg⟩ := hrel
        by_cases hlt : j < M
        · have hjk : j < ks.length := by rw [hksM.out]; exact hlt
          obtain ⟨g, rfl, hgB, hkc⟩ := Hrow.out j hjk
          have hkc4 := hg.cell hkc (by simp; omega)
          have hown4 := Hown3.out.kept hg (by simp; omega)
          have hb4 := hbc3.grown hg hbc3.size (fun j hj => by cases hj; omega)
          obtain ⟨i, hi, hati, hfind, hkk⟩ := Hat.out ks[j] (Hin.out _ (List.getElem_mem hjk))
          have hones := Hone.out i hi
          have hkeyOf : keyOf Tryz.prog 9 (.string (str ks[j])) = some (.string ks[j]) := by
            have h := keyOf_string_mk (P := Tryz.prog) Tryz.underlying9 (s := str ks[j]) (by
              have h1 := hones.1
              have h2 : ks[j].length = l[i].1.size := by rw [← hkk, keyR_data]; exact Array.length_toList
              rw [str_size, h2]
              unfold maxLen
              omega)
            rw [h]
            simp [str]
          obtain ⟨c, hrun, hatc, -⟩ := hown4.lookup_int mlaw Tryz.underlying152 Tryz.underlying3 (mzero _) hkeyOf
          obtain rfl : (i : Int) = c := by
            have h := (hati (.lit (.int .i64 0))).symm.trans hatc
            injection h with h
            injection h
          have hsn : (ks.take (j + 1)).map (pickR l) = (ks.take j).map (pickR l) ++ [l[i]] := by
            rw [List.take_succ_eq_append_getElem hjk, List.map_append]
            unfold pickR
            simp [hfind]
          have hal : ((ks.take j).map (pickR l)).length = j := by rw [List.length_map, List.length_take]; omega
          obtain ⟨b, o, rfl, -, hbs, c0, c1, c2, c3, c4⟩ := (HR.out.below hb4).at i hi
          have hix := run_idx5 b o l.length cap i hi
          have Hsn := Go.Lib.hid hsn; clear hsn
          generalize (ks.take j).map (pickR l) = acc at *
          clear hatc hati hfind hkk hkeyOf
          generalize l[i] = x at *
          obtain ⟨kx, gx, ax, nx, sx⟩ := x
          simp only [] at c0 c1 c2 c3 c4 hones Hsn
          have C1 := Go.Lib.hid fun W => frec_c kx gx ax nx sx W (by omega) (by omega)
          unfold recV at C1
          generalize str ks[j] = kj at *
          have Hown := Go.Lib.hid hown; clear hown hown4
          have hgb := Go.Lib.hid hgB
          clear hones
          go_wp2_with fail
          refine (C1.out _).mono ?_
          rintro e w5 ⟨rfl, hc⟩
          have hg5 := grown_then (grown_then hg hc) (below_one w5 (.cells #[.string kx, .bool gx, .int .i64 ax, .int .i64 nx, .string sx] 28))
          have hown5 := (Hown.out.below hc).below (below_one w5 (.cells #[.string kx, .bool gx, .int .i64 ax, .int .i64 nx, .string sx] 28))
          have hrc := rc5_new w5 (kx, gx, ax, nx, sx)
          simp only [] at hrc
          unfold OwnRec at hown5
          rw [hal] at hown5
          have Hg5 := Go.Lib.hid hg5
          have Hrc := Go.Lib.hid hrc
          have Hown5 := Go.Lib.hid hown5
          clear hg5 hown5 hrc hc hg C1 Hown c0 c1 c2 c3 c4 hkc4 hkc hrun hix hb4
          go_wp2_with (first
            | (with_reducible show wpList _ _ _ (⟨some 42, _, _, _, _, _⟩ :: _) _ _; go_loud (refine wpList_append_fits _ rfl (.tmp 33) (.tmp 41) 22 rfl w.heap.size 28 i5 5 Tryz.underlying22 I5.out.1 I5.out.2.2.1 G0 j M (flat5 acc) rfl Hown5.out ⟨w5.heap.size, 0, none⟩ 1 1 (rc5 (kx, gx, ax, nx, sx)) rfl rfl Hrc.out (rc5_one _) (by omega) ?_); intro w6 hown6 hg6)
            | fail)
          have hg7 := Hg5.out.trans hg6
          refine ⟨⟨j + 1, by omega, by go_num, rfl, ?_, hg7⟩, by simp only [intOf]; omega⟩
          rw [Hsn.out]
          exact own_snoc hal hown6
        · obtain rfl : j = M := by omega
          rw [List.take_of_length_le (by rw [hksM.out]; omega), Hnew.out] at hown
          have hb4 := hbc3.grown hg hbc3.size (fun j hj => by cases hj; omega)
          go_wp2_with fail
          go_ret
          exact ⟨_, rfl, hown, hb4⟩

end Go.Proofs.YthbnecdeebmlhaaGreat

namespace Go.Proofs.YthbnecdeebmlhaaGreat
open Go.RowKit

theorem ret_lget_at {w w0 : World} {tmps : Array Value} {key : ByteArray} {gone : Bool} {k n : Int} {s : ByteArray} {g : Nat} {fr : Nat × Nat} {b : Bool} {v : Value}
    (hp : tmps.getD 4 undef = .pointer (some ⟨g, 0, none⟩)) (hg : w.heap[g]? = some (.cells #[.string key, .bool gone, .int .i64 k, .int .i64 n, .string s] 28 fr)) (h3 : tmps.getD 5 undef = .bool b)
    (hr : v = .tuple #[.agg #[.string key, .bool gone, .int .i64 k, .int .i64 n, .string s], .bool b]) (hb : Below w0.heap.size w0 w) : bodyPost Tryz.prog Tryz.f29 (fun e w' => e = .returned v ∧ Below w0.heap.size w0 w') Exit.ret { tmps := tmps, defers := [] } w := by
  subst hr
  have h := results_row_one (P := Tryz.prog) (fn := Tryz.f29) (p := 4) (u := 5) (ty := 28) rfl tmps w g 28 #[.string key, .bool gone, .int .i64 k, .int .i64 n, .string s] fr _ hp hg Tryz.underlying28 rfl (by kernel_rfl)
  rw [h3] at h
  exact bodyPost_ret h rfl ⟨rfl, hb⟩
theorem ret_lslot_at {w w0 : World} {tmps : Array Value} {key : ByteArray} {gone : Bool} {k n : Int} {s : ByteArray} {g : Nat} {fr : Nat × Nat} {b : Bool} {v : Value}
    (hp : tmps.getD 6 undef = .pointer (some ⟨g, 0, none⟩)) (hg : w.heap[g]? = some (.cells #[.string key, .bool gone, .int .i64 k, .int .i64 n, .string s] 28 fr)) (h3 : tmps.getD 7 undef = .bool b)
    (hr : v = .tuple #[.agg #[.string key, .bool gone, .int .i64 k, .int .i64 n, .string s], .bool b]) (hb : Below w0.heap.size w0 w) : bodyPost Tryz.prog Tryz.f26 (fun e w' => e = .returned v ∧ Below w0.heap.size w0 w') Exit.ret { tmps := tmps, defers := [] } w := by
  subst hr
  have h := results_row_one (P := Tryz.prog) (fn := Tryz.f26) (p := 6) (u := 7) (ty := 28) rfl tmps w g 28 #[.string key, .bool gone, .int .i64 k, .int .i64 n, .string s] fr _ hp hg Tryz.underlying28 rfl (by kernel_rfl)
  rw [h3] at h
  exact bodyPost_ret h rfl ⟨rfl, hb⟩

set_option maxRecDepth 100000 in
theorem llist_c {w : World} {B p d : Nat} {v : Value} {L : List RecT} (h : LG w B p d v L) : Calls Tryz.prog 28 #[.pointer (some ⟨p, 0, none⟩)] w fun e w' => ∃ v', e = .returned v' ∧ OwnRec w' w.heap.size v' (newestR L) ∧ Below w.heap.size w w' := by
  have hl := h.len
  have C := Go.Lib.hid (pnewest_c v L w h.own.rs (by omega) fun x hx => by have := mayT_short (h.may x hx); omega)
  obtain ⟨x0, x1⟩ := h.cells
  obtain ⟨a, cap, rfl, -⟩ := h.own.rs.form
  clear h hl
  go_enter Tryz.func28, Tryz.ntmps28
  go_wp2_with fail
  refine C.out.mono ?_
  rintro e w1 ⟨v', rfl, hown, hb⟩
  have HO := Go.Lib.hid hown
  have HB := Go.Lib.hid hb
  clear hown hb C
  go_wp2_with fail
  go_ret
  exact ⟨_, rfl, HO.out, HB.out⟩

set_option maxHeartbeats 1000000 in
set_option maxRecDepth 100000 in
theorem lget_c {w : World} {B p d : Nat} {v : Value} {L : List RecT} (h : LG w B p d v L) (key : ByteArray) (hk : key.size ≤ 1000000) :
    Calls Tryz.prog 29 #[.pointer (some ⟨p, 0, none⟩), .string key] w fun e w' => e = .returned (outR (findK keyR L key.toList)) ∧ Below w.heap.size w w' := by
  have hb1 := below_one w (.cells #[.string ⟨#[]⟩, .bool false, .int .i64 0, .int .i64 0, .string ⟨#[]⟩] 28)
  have hA := heap_alloc_new w (.cells #[.string ⟨#[]⟩, .bool false, .int .i64 0, .int .i64 0, .string ⟨#[]⟩] 28)
  have CF := Go.Lib.hid (lfind_c (h.below hb1) key hk)
  have H := Go.Lib.hid h
  clear h hk
  go_enter Tryz.func29, Tryz.ntmps29
  go_wp2_with fail
  refine CF.out.mono ?_
  rintro e w1 ⟨hor, hc⟩
  have hA := row_kept hA hc
  have hbb := hb1.trans (hc.mono hb1.size)
  have HA := Go.Lib.hid hA
  have HB := Go.Lib.hid hbb
  have H1 := Go.Lib.hid (H.out.below hbb)
  clear hA hbb hc hb1 CF
  rcases hor with ⟨i, hi, hik, rfl⟩ | ⟨hno, rfl⟩
  · have HE := Go.Lib.hid (show findK keyR L key.toList = some L[i] from (find_iff H.out.keys _ _).2 ⟨List.getElem_mem hi, keyR_eq.2 hik⟩)
    obtain ⟨x0, x1⟩ := H1.out.cells
    obtain ⟨g, cap, rfl, hglt⟩ := own_form H1.out.own (by intro e; rw [e] at hi; simp at hi)
    obtain ⟨b, o, hbo, -, -, c0, c1, c2, c3, c4⟩ := H1.out.own.rs.at i hi
    cases hbo
    have hix := run_idx5 g 0 L.length cap i hi
    simp only [Nat.zero_add] at hix c0 c1 c2 c3 c4
    have hsz := H1.out.sizes hi
    generalize L[i] = x at *
    obtain ⟨kx, gx, ax, nx, sx⟩ := x
    simp only [] at c0 c1 c2 c3 c4 hsz
    have CR := Go.Lib.hid fun W => frec_c kx gx ax nx sx W (by omega) (by omega)
    unfold recV at CR
    clear hsz hik
    go_wp2_with fail
    refine (CR.out _).mono ?_
    rintro e w2 ⟨rfl, hc⟩
    have HA2 := Go.Lib.hid (row_kept HA.out hc)
    have HB2 := Go.Lib.hid (HB.out.trans (hc.mono HB.out.size))
    clear hc c0 c1 c2 c3 c4 hix x0 x1 CR HA
    go_wp2_with (first
      | (with_reducible show wpList _ _ _ (⟨none, Op.store 28 (.tmp 4) (.tmp 23), _, _, _, _⟩ :: _) _ _; go_loud (refine wpList_store_row rfl 28 (.tmp 4) (.tmp 23) rfl w.heap.size #[.string kx, .bool gx, .int .i64 ax, .int .i64 nx, .string sx] rfl rfl 28 _ HA2.out (by kernel_rfl) rfl (rec_cells_one ..) ?_))
      | fail)
    refine ret_lget_at rfl (setRow_heap _ _ _ _ _ (0, 0) HA2.out) rfl ?_ (setRow_below _ HB2.out (Nat.le_refl _))
    rw [HE.out]
    rfl
  · have HE := Go.Lib.hid (show findK keyR L key.toList = none from (find_none _).2 fun x hx e => hno x hx (keyR_eq.1 e))
    clear hno
    go_wp2_with (first
      | (with_reducible show wpList _ _ _ (⟨none, Op.store 28 (.tmp 4) (.tmp 15), _, _, _, _⟩ :: _) _ _; go_loud (refine wpList_store_row rfl 28 (.tmp 4) (.tmp 15) rfl w.heap.size #[.string ⟨#[]⟩, .bool false, .int .i64 0, .int .i64 0, .string ⟨#[]⟩] rfl rfl 28 _ HA.out (by kernel_rfl) rfl (rec_cells_one ..) ?_))
      | fail)
    refine ret_lget_at rfl (setRow_heap _ _ _ _ _ (0, 0) HA.out) rfl ?_ (setRow_below _ HB.out (Nat.le_refl _))
    rw [HE.out]
    rfl

/-- The record of a slot. -/
def slotO (T : SlT) (L : List RecT) (q : Nat) : Option RecT := (T q).map fun y => L.getD y.2.toNat nullR
theorem slot_some {T : SlT} {L : List RecT} (hf : Fits T (esL L)) {q t : Nat} {z : Int} (hq : q < 32) (hT : T q = some (t, z)) : ∃ i, ∃ h : i < L.length, z = (i : Int) ∧ slotO T L q = some L[i] ∧ keyN (q / 4) t = keyH (hR L[i]) := by
  obtain ⟨k, hk, he⟩ := hf.entry hq hT
  have hk2 : k < L.length := by rw [esL_len] at hk; exact hk
  rw [esL_at hk2] at he
  unfold keyE at he
  simp only [Prod.mk.injEq] at he
  refine ⟨k, hk2, he.2.symm, ?_, he.1.symm⟩
  unfold slotO
  rw [hT]
  simp only [Option.map_some, Option.some.injEq, ← he.2, Int.toNat_natCast]
  rw [List.getD_eq_getElem?_getD, List.getElem?_eq_getElem hk2]
  rfl

set_option maxHeartbeats 1000000 in
set_option maxRecDepth 100000 in
theorem lslot_c {w : World} {B p d : Nat} {v : Value} {L : List RecT} (h : LG w B p d v L) {T : SlT} (hc : CK w d T) (hf : Fits T (esL L)) {b s : Nat} (hb : b < 8) (hs : s < 4) :
    Calls Tryz.prog 26 #[.pointer (some ⟨p, 0, none⟩), .int .i64 (b : Int), .int .i64 (s : Int)] w fun e w' => e = .returned (outR (slotO T L (4 * b + s))) ∧ Below w.heap.size w w' := by
  have hb1 := below_one w (.cells #[.string ⟨#[]⟩, .bool false, .int .i64 0, .int .i64 0, .string ⟨#[]⟩] 28)
  have hA := heap_alloc_new w (.cells #[.string ⟨#[]⟩, .bool false, .int .i64 0, .int .i64 0, .string ⟨#[]⟩] 28)
  have H0 := h.below hb1
  obtain ⟨x0, x1⟩ := H0.cells
  obtain ⟨av, cap, rfl, hlm⟩ := h.own.rs.form
  have H := Go.Lib.hid h
  cases hT : T (4 * b + s) with
  | none =>
    have C := Go.Lib.hid (cat_none (hc.below hb1) hb hs hT)
    have HE := Go.Lib.hid (show slotO T L (4 * b + s) = none from by unfold slotO; rw [hT]; rfl)
    clear hT hf hc H0 h
    go_enter Tryz.func26, Tryz.ntmps26
    go_wp2_with fail
    refine C.out.mono ?_
    rintro e w1 ⟨rfl, hc⟩
    have HA := Go.Lib.hid (row_kept hA hc)
    have HB := Go.Lib.hid (hb1.trans (hc.mono hb1.size))
    clear hA hc hb1 C x0 x1
    go_wp2_with (first
      | (with_reducible show wpList _ _ _ (⟨none, Op.store 28 (.tmp 6) (.tmp 27), _, _, _, _⟩ :: _) _ _; go_loud (refine wpList_store_row rfl 28 (.tmp 6) (.tmp 27) rfl w.heap.size #[.string ⟨#[]⟩, .bool false, .int .i64 0, .int .i64 0, .string ⟨#[]⟩] rfl rfl 28 _ HA.out (by kernel_rfl) rfl (rec_cells_one ..) ?_))
      | fail)
    refine ret_lslot_at rfl (setRow_heap _ _ _ _ _ (0, 0) HA.out) rfl ?_ (setRow_below _ HB.out (Nat.le_refl _))
    rw [HE.out]
    rfl
  | some y =>
    obtain ⟨t, z⟩ := y
    have C := Go.Lib.hid (cat_some (hc.below hb1) hb hs hT)
    obtain ⟨i, hi, rfl, hsl, -⟩ := slot_some hf (by omega) hT
    have HE := Go.Lib.hid hsl
    clear hT hf hc H0 h hsl
    go_enter Tryz.func26, Tryz.ntmps26
    go_wp2_with fail
    refine C.out.mono ?_
    rintro e w1 ⟨rfl, hc⟩
    have HA := Go.Lib.hid (row_kept hA hc)
    have HB := Go.Lib.hid (hb1.trans (hc.mono hb1.size))
    have H1 := Go.Lib.hid (H.out.below HB.out)
    clear hA hc hb1 C x0 x1
    obtain ⟨x0, x1⟩ := H1.out.cells
    obtain ⟨b2, o2, rfl, -, -, c0, c1, c2, c3, c4⟩ := H1.out.own.rs.at i hi
    have hix := run_idx5 b2 o2 L.length cap i hi
    have hsz := H1.out.sizes hi
    generalize L[i] = x at *
    obtain ⟨kx, gx, ax, nx, sx⟩ := x
    simp only [] at c0 c1 c2 c3 c4 hsz
    have CR := Go.Lib.hid fun W => frec_c kx gx ax nx sx W (by omega) (by omega)
    unfold recV at CR
    clear hsz
    go_wp2_with fail
    refine (CR.out _).mono ?_
    rintro e w2 ⟨rfl, hc⟩
    have HA2 := Go.Lib.hid (row_kept HA.out hc)
    have HB2 := Go.Lib.hid (HB.out.trans (hc.mono HB.out.size))
    clear hc c0 c1 c2 c3 c4 hix x0 x1 CR HA
    go_wp2_with (first
      | (with_reducible show wpList _ _ _ (⟨none, Op.store 28 (.tmp 6) (.tmp 35), _, _, _, _⟩ :: _) _ _; go_loud (refine wpList_store_row rfl 28 (.tmp 6) (.tmp 35) rfl w.heap.size #[.string kx, .bool gx, .int .i64 ax, .int .i64 nx, .string sx] rfl rfl 28 _ HA2.out (by kernel_rfl) rfl (rec_cells_one ..) ?_))
      | fail)
    refine ret_lslot_at rfl (setRow_heap _ _ _ _ _ (0, 0) HA2.out) rfl ?_ (setRow_below _ HB2.out (Nat.le_refl _))
    rw [HE.out]
    rfl

def VLr (p d hk : Nat) (key : ByteArray) (F : List Int) : Nat → World → Value → Prop
  | 7, _, v => v = .pointer (some ⟨p, 0, none⟩)
  | 8, _, v => v = .pointer (some ⟨p, 0, none⟩)
  | 9, _, v => v = .pointer (some ⟨p, 0, none⟩)
  | 10, _, v => v = .pointer (some ⟨d, 0, none⟩)
  | 11, _, v => v = .string key
  | 12, _, v => v = .int .u64 (hk : Int)
  | 13, w, v => KI.R w v F
  | 14, _, v => v = .int .i64 (F.length : Int)
  | 4, _, v => v = .int .i64 (F.length : Int)
  | _, _, _ => True

theorem VLr_below (p d hk : Nat) (key : ByteArray) (F : List Int) : ∀ (i : Nat) (w w' : World) (v : Value), VLr p d hk key F i w v → Below w.heap.size w w' → VLr p d hk key F i w' v := by
  intro i w w' v h hb
  unfold VLr at h ⊢
  split at h <;> first | exact h | trivial | exact Lay.R.below h hb

set_option maxHeartbeats 1000000 in
set_option maxRecDepth 100000 in
theorem lreads_c {w : World} {B p d : Nat} {v : Value} {L : List RecT} (h : LG w B p d v L) (key : ByteArray) (hk : key.size ≤ 1000000) :
    Calls Tryz.prog 31 #[.pointer (some ⟨p, 0, none⟩), .string key] w fun e w' => e = .returned (.int .i64 (readsR L key : Int)) ∧ Below w.heap.size w w' := by
  have CH := Go.Lib.hid fun W => hof_k key (hashS key) rfl W hk
  have CF := Go.Lib.hid fun W (hb : Below w.heap.size w W) => lids_c (h.below hb) key
  have X0 := Go.Lib.hid h.cells.1
  have HN := Go.Lib.hid (ids_len L key)
  clear h hk
  generalize idsR L key = F at *
  generalize hashS key = hk at *
  go_enter Tryz.func31, Tryz.ntmps31
  go_upto_region 3 with (fail)
  refine wp_region_each (by kernel_rfl) (VLr p d hk key F) (VLr_below p d hk key F) (by decide +kernel) (by decide +kernel) (by rfl) [7, 8, 9, 10, 11, 12, 13, 14, 4] (by rfl) ?_ ?_
  · intro i o ho a w6 hb6 hlen hg
    have x0 := keepC X0.out hb6
    match i, ho with
    | 0, ho =>
      obtain rfl := Option.some.inj ho
      have h0 := given_old hg 0 (by decide +kernel)
      clear hg
      exact st_yield ho (wanted_none rfl) (.pointer (some ⟨p, 0, none⟩)) w6 (by simp [execOp, Act.eval, h0, go_sem]) ⟨_, rfl, Below.refl _ _, by rintro t' ⟨⟩; rfl⟩
    | 1, ho =>
      obtain rfl := Option.some.inj ho
      obtain ⟨_, h7, rfl⟩ := given_fed hg 7 (by decide +kernel)
      clear hg
      exact st_yield ho (wanted_none rfl) (.pointer (some ⟨p, 0, none⟩)) w6 (by simp [execOp, Act.eval, h7, go_sem]) ⟨_, rfl, Below.refl _ _, by rintro t' ⟨⟩; rfl⟩
    | 2, ho =>
      obtain rfl := Option.some.inj ho
      obtain ⟨_, h8, rfl⟩ := given_fed hg 8 (by decide +kernel)
      clear hg
      exact st_yield ho (wanted_none rfl) (.pointer (some ⟨p, 0, none⟩)) w6 (by simp [execOp, Act.eval, h8, go_sem]) ⟨_, rfl, Below.refl _ _, by rintro t' ⟨⟩; rfl⟩
    | 3, ho =>
      obtain rfl := Option.some.inj ho
      obtain ⟨_, h9, rfl⟩ := given_fed hg 9 (by decide +kernel)
      clear hg
      exact st_yield ho (wanted_none rfl) (.pointer (some ⟨d, 0, none⟩)) w6 (by simp [execOp, Act.eval, h9, go_sem, x0]) ⟨_, rfl, Below.refl _ _, by rintro t' ⟨⟩; rfl⟩
    | 4, ho =>
      obtain rfl := Option.some.inj ho
      have h1 := given_old hg 1 (by decide +kernel)
      clear hg
      exact st_yield ho (wanted_none rfl) (.string key) w6 (by simp [execOp, Act.eval, h1, go_sem]) ⟨_, rfl, Below.refl _ _, by rintro t' ⟨⟩; rfl⟩
    | 5, ho =>
      obtain rfl := Option.some.inj ho
      obtain ⟨_, h11, rfl⟩ := given_fed hg 11 (by decide +kernel)
      clear hg
      exact st_enter (w1 := w6) ho (wanted_none rfl) 59 #[.string key] (by simp [execOp, Act.eval, h11, resolve, go_sem]) ((CH.out _).mono (by rintro e w7 ⟨rfl, hb7⟩; exact ⟨_, rfl, _, rfl, hb7, by rintro t' ⟨⟩; rfl⟩))
    | 6, ho =>
      obtain rfl := Option.some.inj ho
      obtain ⟨_, h10, rfl⟩ := given_fed hg 10 (by decide +kernel)
      obtain ⟨_, h12, rfl⟩ := given_fed hg 12 (by decide +kernel)
      clear hg
      exact st_enter (w1 := w6) ho (wanted_none rfl) 63 #[.pointer (some ⟨d, 0, none⟩), .int .u64 (hk : Int)] (by simp [execOp, Act.eval, h10, h12, resolve, go_sem]) ((CF.out w6 hb6).mono (by rintro e w7 ⟨v', rfl, hown, hb7⟩; exact ⟨v', rfl, _, rfl, hb7, by rintro t' ⟨⟩; exact hown⟩))
    | 7, ho =>
      obtain rfl := Option.some.inj ho
      obtain ⟨v13, h13, p13⟩ := given_fed hg 13 (by decide +kernel)
      clear hg
      obtain ⟨a, cap, rfl, -⟩ := p13.form
      exact st_yield ho (wanted_none rfl) (.int .i64 (F.length : Int)) w6 (by simp [execOp, Act.eval, h13, resolve, go_sem]) ⟨_, rfl, Below.refl _ _, by rintro t' ⟨⟩; rfl⟩
    | 8, ho =>
      obtain rfl := Option.some.inj ho
      obtain ⟨_, h14, rfl⟩ := given_fed hg 14 (by decide +kernel)
      clear hg
      exact st_yield ho (wanted_none rfl) (.int .i64 (F.length : Int)) w6 (by simp [execOp, Act.eval, h14, go_sem]) ⟨_, rfl, Below.refl _ _, by rintro t' ⟨⟩; rfl⟩
    | n + 9, ho => simp at ho
  · intro f w6 hb6 hv
    have h4 := hv 4 (by decide)
    simp only [VLr] at h4
    have HB := Go.Lib.hid hb6
    clear hv CF CH hb6
    unfold putAll
    simp only [List.foldl]
    simp only [h4]
    go_simp
    clear h4
    go_wp2_with fail
    go_ret
    rw [← HN.out]
    exact ⟨rfl, HB.out⟩

end Go.Proofs.YthbnecdeebmlhaaGreat

namespace Go.Proofs.YthbnecdeebmlhaaGreat
open Go.RowKit

theorem eqRec_same (x : RecT) : eqRec x.1 x.2.1 x.2.2.1 x.2.2.2.1 x.2.2.2.2 x.1 x.2.1 x.2.2.1 x.2.2.2.1 x.2.2.2.2 = true := by
  rw [eqRec_iff]
  exact decide_eq_true rfl
end Go.Proofs.YthbnecdeebmlhaaGreat
