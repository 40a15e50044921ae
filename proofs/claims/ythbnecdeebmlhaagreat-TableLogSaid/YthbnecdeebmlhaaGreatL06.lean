/-
  Package record: contract of fresh.
  Package fresh: contract of Rec.
  Stage 19: order.List.
  Stage 19: order.mayLie, twice.
  Stage 19: order.twice, May.
  Numbers and texts as bytes (of no code): what is read is written so.
  Records as bytes: what stands at the beginning of bytes.
  Rows of records as bytes (of no code): which rows may be, their bytes, how those are read; what is read is written so.
  Bits, the highest first; bits as bytes: mathematics alone.
  Bits by pieces: a number's bits in two pieces, a piece behind the last bit of bytes, a piece out of one byte: mathematics alone.
  A *bits.Bits in memory: what it holds; worlds in which two blocks may have changed. Plain facts.
  'append' to what the call itself owns, with one thing more than the library's law says: the row is the one it was, or a new one.
-/
import Derived.Test.YthbnecdeebmlhaaGreatL05
import Derived.Test.YthbnecdeebmlhaaGreatL04
import Derived.Deep.DeepCutAuto
import Derived.LoopTactic
import Derived.BigQuiet
import Derived.Test.YthbnecdeebmlhaaGreatL02
import Derived.Test.YthbnecdeebmlhaaGreatL01
namespace Go.Proofs.YthbnecdeebmlhaaGreat
open Go.RowKit Go.Op

/-- Storing what stands there already leaves the world as it is. -/
theorem setCell_id {w : World} {b o : Nat} {cs : Array Value} {t : TypeId} {fr : Nat × Nat} {v : Value} (hg : w.heap[b]? = some (.cells cs t fr)) (hv : cs[o]? = some v) : w.setCell ⟨b, o, none⟩ v = w := by
  obtain ⟨hb, hg⟩ := Array.getElem?_eq_some_iff.1 hg
  obtain ⟨ho, hv⟩ := Array.getElem?_eq_some_iff.1 hv
  have hset : cs.setIfInBounds o v = cs := by
    rw [← hv]
    apply Array.ext
    · simp
    · intro i h1 h2
      rw [Array.getElem_setIfInBounds]
      split
      · rename_i h; subst h; rfl
      · rfl
  have : (w.setCell ⟨b, o, none⟩ v).heap = w.heap := by
    unfold World.setCell
    apply Array.ext
    · simp
    · intro i h1 h2
      simp only [Array.getElem_modify]
      by_cases hi : b = i
      · subst hi
        rw [if_pos rfl, hg]
        simp [hset]
      · rw [if_neg hi]
  have e : w.setCell ⟨b, o, none⟩ v = { w with heap := (w.setCell ⟨b, o, none⟩ v).heap } := rfl
  rw [e, this]

end Go.Proofs.YthbnecdeebmlhaaGreat

namespace Go.Proofs.YthbnecdeebmlhaaGreat
open Go.RowKit Go.Op

theorem ret_frec_at {w w0 : World} {tmps : Array Value} {key : ByteArray} {gone : Bool} {k n : Int} {s : ByteArray} {g : Nat} {fr : Nat × Nat}
    (hp : tmps.getD 2 undef = .pointer (some ⟨g, 0, none⟩)) (hg : w.heap[g]? = some (.cells #[.string key, .bool gone, .int .i64 k, .int .i64 n, .string s] 28 fr)) (hb : Below w0.heap.size w0 w) :
    bodyPost Tryz.prog Tryz.f44 (fun e w' => e = .returned (.agg #[.string key, .bool gone, .int .i64 k, .int .i64 n, .string s]) ∧ Below w0.heap.size w0 w') Exit.ret { tmps := tmps, defers := [] } w :=
  bodyPost_ret (results_cell_row (P := Tryz.prog) (fn := Tryz.f44) (p := 2) (ty := 28) rfl tmps w g 28 #[.string key, .bool gone, .int .i64 k, .int .i64 n, .string s] fr _ hp hg Tryz.underlying28 rfl (by kernel_rfl)) rfl ⟨rfl, hb⟩

set_option maxRecDepth 100000 in
theorem frec_c (key : ByteArray) (gone : Bool) (k n : Int) (s : ByteArray) (w : World) (hk : key.size ≤ 1000000) (hs : s.size ≤ 1000000) :
    Calls Tryz.prog 44 #[recV key gone k n s] w fun e w' => e = .returned (recV key gone k n s) ∧ Below w.heap.size w w' := by
  have C1 := Go.Lib.hid fun W => clone_c key W (by omega)
  have C2 := Go.Lib.hid fun W => clone_c s W (by omega)
  clear hk hs
  unfold recV
  have hbb := below_two w (.cells #[.string key, .bool gone, .int .i64 k, .int .i64 n, .string s] 28) (.cells #[.string ⟨#[]⟩, .bool false, .int .i64 0, .int .i64 0, .string ⟨#[]⟩] 28)
  have hA := two_first w (.cells #[.string key, .bool gone, .int .i64 k, .int .i64 n, .string s] 28) (.cells #[.string ⟨#[]⟩, .bool false, .int .i64 0, .int .i64 0, .string ⟨#[]⟩] 28)
  have hB := heap_alloc2_new w (.cells #[.string key, .bool gone, .int .i64 k, .int .i64 n, .string s] 28) (.cells #[.string ⟨#[]⟩, .bool false, .int .i64 0, .int .i64 0, .string ⟨#[]⟩] 28)
  go_enter Tryz.func44, Tryz.ntmps44
  go_wp2_with fail
  refine (C1.out _).mono ?_
  rintro e w1 ⟨rfl, hc⟩
  have hA := row_kept hA hc
  have hB := row_kept hB hc
  have hbb := hbb.trans (hc.mono hbb.size)
  obtain ⟨x0, x1, x2, x3, x4⟩ := row5 hA
  have hf := fun o => frozen_of_row w1 w.heap.size o _ _ hA
  have hi0 := setCell_id (o := 0) (v := .string key) hA rfl
  have hi4 := setCell_id (o := 4) (v := .string s) hA rfl
  clear C1 hc
  go_wp2_with fail
  refine (C2.out _).mono ?_
  rintro e w2 ⟨rfl, hc⟩
  have hA := row_kept hA hc
  have hB := row_kept hB hc
  have hbb := hbb.trans (hc.mono hbb.size)
  clear x0 x1 x2 x3 x4 hf hi0 hi4 C2
  obtain ⟨x0, x1, x2, x3, x4⟩ := row5 hA
  have hf := fun o => frozen_of_row w2 w.heap.size o _ _ hA
  have hi0 := setCell_id (o := 0) (v := .string key) hA rfl
  have hi4 := setCell_id (o := 4) (v := .string s) hA rfl
  have HB := Go.Lib.hid hB
  clear hB
  go_wp2_with (first
    | (with_reducible show wpList _ _ _ (⟨none, Op.store 28 (.tmp 2) (.tmp 13), _, _, _, _⟩ :: _) _ _; go_loud (refine wpList_store_row rfl 28 (.tmp 2) (.tmp 13) rfl (w.heap.size + 1) #[.string key, .bool gone, .int .i64 k, .int .i64 n, .string s] rfl rfl 28 _ HB.out (by kernel_rfl) rfl (rec_cells_one ..) ?_))
    | fail)
  exact ret_frec_at rfl (setRow_heap _ _ _ _ _ (0, 0) HB.out) (setRow_below _ hbb (by omega))

end Go.Proofs.YthbnecdeebmlhaaGreat

namespace Go.Proofs.YthbnecdeebmlhaaGreat
open Go.RowKit

/-- What a walk over a table's rows asks, at letters. -/
structure TabV (TT : TabT) (TL : List Value) (RL : Nat → Array Value) (Z : Array Value) : Prop where
  size : (Tryz.prog.info? 43).map (·.size) = some TL.length
  row : ∀ b : Nat, b < 8 → ∀ W, (Instr.index 43 (.agg TL.toArray) (.int .i64 (b : Int))).run Tryz.prog W = .ok (.agg (RL b)) W
  slot : ∀ b s : Nat, s < 4 → ∀ W, (Instr.index 41 (.agg (RL b)) (.int .i64 (s : Int))).run Tryz.prog W = .ok (.agg (enc6 (TT (4 * b + s))).toArray) W
  rsize : ∀ b, (Tryz.prog.info? 41).map (·.size) = some (RL b).size
  zsize : ∀ b, Z.size = (RL b).size
  rone : ∀ b, (RL b).all (fun x => x.oneCell') = true
  zero : ∀ W, (zeroValue 41).run Tryz.prog W = .ok (.agg Z) W
set_option maxRecDepth 100000 in
theorem tabV (TT : TabT) : TabV TT (tabL TT 32) (fun b => (rowL TT b).toArray) (rowL (fun _ => (false, nullR)) 0).toArray :=
  ⟨sizeTabO TT, fun b hb W => index_row TT b hb W, fun b s hs W => index_slot TT b s hs W, fun b => sizeRow4 TT b, fun b => by rw [List.size_toArray, List.size_toArray, rowL_len, rowL_len], fun b => rowL_one TT b, zero_row4⟩

theorem slot6 (y : Bool × RecT) : (enc6 y).toArray = #[.bool y.1, .string y.2.1, .bool y.2.2.1, .int .i64 y.2.2.2.1, .int .i64 y.2.2.2.2.1, .string y.2.2.2.2.2] := rfl

set_option maxHeartbeats 4000000 in
set_option maxRecDepth 100000 in
theorem olist_c (TT : TabT) (w : World) (hs : ∀ q, q < 32 → (TT q).2.1.size ≤ 1000 ∧ (TT q).2.2.2.2.2.size ≤ 1000) :
    Calls Tryz.prog 54 #[.agg (tabL TT 32).toArray] w fun e w' => ∃ v' l', e = .returned v' ∧ l'.Perm (recsT TT 32) ∧ RiseL l' ∧ OwnRec w' w.heap.size v' l' ∧ Below w.heap.size w w' := by
  have HRG := Go.Lib.hid (TO.new w TT).range
  have HB := Go.Lib.hid (below_one w (.cells (tabL TT 32).toArray 43))
  have HS := Go.Lib.hid hs
  have HV := Go.Lib.hid (tabV TT)
  clear hs
  generalize tabL TT 32 = TL at *
  generalize (fun b => (rowL TT b).toArray) = RL at *
  generalize (rowL (fun _ => (false, nullR)) 0).toArray = Z at *
  obtain ⟨g, hg⟩ : ∃ g, g = w.heap.size := ⟨_, rfl⟩
  have HG := Go.Lib.hid hg
  rw [← hg] at HRG HB ⊢
  clear hg
  have hz := HV.out.zero
  go_enter Tryz.func54, Tryz.ntmps54
  go_upto_region 2 with (fail)
  rw [← HG.out]
  generalize w.alloc (.cells TL.toArray 43) = w1 at *
  go_wp2_with (first
    | (with_reducible show wpList _ _ _ (⟨some 8, _, _, _, _, _⟩ :: _) _ _; go_loud (refine wpList_load_mid rfl 43 (.tmp 1) rfl g 0 rfl TL _ HRG.out Tryz.underlying43 rfl HV.out.size ?_))
    | fail)
  go_loopw [3, 9] (fun lv bv wr => ∃ (b : Nat) (u : Value), u = lv ∧ b ≤ 8 ∧ bv = .int .i64 (b : Int) ∧ Hid (OwnRec wr g u (recsT TT (4 * b))) ∧ Hid (Below g w wr)) (fun _ bv _ => 8 - (intOf bv).toNat)
  case atStart => exact ⟨0, _, rfl, by omega, rfl, Go.Lib.hid (OwnRec.nil _ _), HB⟩
  case round =>
    obtain ⟨b, u, rfl, hb, rfl, HO, HB⟩ := hrel
    by_cases hlt : b < 8
    · have hltI : (b : Int) < 8 := by omega
      have hix := HV.out.row b hlt
      have hgw : g ≤ wr.heap.size := by have := HB.out.size; have := HG.out; omega
      have hb2 := below_one wr (.cells Z 41)
      have HZ := Go.Lib.hid (heap_alloc_new wr (.cells Z 41))
      have HX := Go.Lib.hid (setRow_heap _ wr.heap.size _ (RL b) 41 (0, 0) HZ.out)
      have HB2 := Go.Lib.hid (setRow_below (RL b) hb2 (Nat.le_refl _))
      clear hb2
      go_upto_region 5 with (first
        | (with_reducible show wpList _ _ _ (⟨none, Op.store 41 (.tmp 5) (.tmp 11), _, _, _, _⟩ :: _) _ _; go_loud (refine wpList_store_row rfl 41 (.tmp 5) (.tmp 11) rfl wr.heap.size (RL b) rfl rfl 41 Z HZ.out (HV.out.rsize b) (HV.out.zsize b) (HV.out.rone b) ?_))
        | fail)
      have HO2 := Go.Lib.hid (HO.out.below HB2.out)
      have HB3 := Go.Lib.hid (HB.out.trans (HB2.out.mono hgw))
      obtain ⟨g2, hg2⟩ : ∃ g2, g2 = wr.heap.size := ⟨_, rfl⟩
      rw [← hg2] at HX HO2 HB3 ⊢
      clear hg2 HZ HB2 HO HB hix hz
      generalize (wr.alloc (.cells Z 41)).setRow g2 (RL b) = w2 at *
      go_wp2_with (first
        | (with_reducible show wpList _ _ _ (⟨some 12, _, _, _, _, _⟩ :: _) _ _; go_loud (refine wpList_load_row rfl 41 (.tmp 5) rfl g2 rfl 41 (RL b) (0, 0) _ HX.out Tryz.underlying41 rfl (HV.out.rsize b) ?_))
        | fail)
      go_loopw [3, 13] (fun lv sv wr => ∃ (s : Nat) (u : Value), u = lv ∧ s ≤ 4 ∧ sv = .int .i64 (s : Int) ∧ Hid (OwnRec wr g u (recsT TT (4 * b + s))) ∧ Hid (Below g w wr)) (fun _ sv _ => 4 - (intOf sv).toNat)
      case atStart => exact ⟨0, _, rfl, by omega, rfl, HO2, HB3⟩
      case round =>
        clear HO2 HB3 HX
        obtain ⟨s, u, rfl, hs4, rfl, HO, HB⟩ := hrel
        by_cases hslt : s < 4
        · have hsI : (s : Int) < 4 := by omega
          have hgw : g ≤ wr.heap.size := by have := HB.out.size; have := HG.out; omega
          have hix2 := HV.out.slot b s hslt
          rw [slot6] at hix2
          have hsz := HS.out (4 * b + s) (by omega)
          have HRN := Go.Lib.hid (show recsT TT (4 * b + (s + 1)) = recsT TT (4 * b + s) ++ (if (TT (4 * b + s)).1 then [(TT (4 * b + s)).2] else []) from recsT_succ TT (4 * b + s))
          have HRL := Go.Lib.hid (show (recsT TT (4 * b + s)).length ≤ 32 from by have := recsT_len TT (4 * b + s); omega)
          generalize recsT TT (4 * b + s) = RO at *
          generalize TT (4 * b + s) = y at *
          obtain ⟨hq, kx, gx, ax, nx, sx⟩ := y
          simp only [] at hix2 hsz HRN
          have hbA := below_one wr (.cells #[.bool hq, .string kx, .bool gx, .int .i64 ax, .int .i64 nx, .string sx] 40)
          have HX := Go.Lib.hid (heap_alloc_new wr (.cells #[.bool hq, .string kx, .bool gx, .int .i64 ax, .int .i64 nx, .string sx] 40))
          have HO2 := Go.Lib.hid (HO.out.below hbA)
          have HB2 := Go.Lib.hid (HB.out.trans (hbA.mono hgw))
          have CF := fun W => frec_c kx gx ax nx sx W (by omega) (by omega)
          unfold recV at CF
          have CF := Go.Lib.hid CF
          clear hbA hsz HO HB
          go_upto_region 8 with (fail)
          obtain ⟨g3, hg3⟩ : ∃ g, g = wr.heap.size := ⟨_, rfl⟩
          rw [← hg3] at HX ⊢
          clear hg3 hix2
          generalize wr.alloc (.cells #[.bool hq, .string kx, .bool gx, .int .i64 ax, .int .i64 nx, .string sx] 40) = w3 at *
          obtain ⟨x0, x1, x2, x3, x4, x5⟩ := row6 HX.out
          cases hq with
          | false =>
            simp only [Bool.false_eq_true, if_false, List.append_nil] at HRN
            have HE := HRN.out
            go_wp2_with fail
            exact ⟨⟨s + 1, _, rfl, by omega, by go_num, by rw [HE]; exact HO2, HB2⟩, by simp only [intOf]; omega⟩
          | true =>
            simp only [if_true] at HRN
            go_wp2_with fail
            refine (CF.out _).mono ?_
            rintro e w4 ⟨rfl, hc⟩
            have hb5 := below_one w4 (.cells #[.string kx, .bool gx, .int .i64 ax, .int .i64 nx, .string sx] 28)
            have hc5 := hc.trans (hb5.mono hc.size)
            have HO5 := Go.Lib.hid (HO2.out.below hc5)
            have HB5 := Go.Lib.hid (HB2.out.trans (hc5.mono (by have := HB2.out.size; have := HG.out; omega)))
            have HON := Go.Lib.hid (RS.one w4 (kx, gx, ax, nx, sx))
            simp only [] at HON
            clear hb5 hc hc5 CF x0 x1 x2 x3 x4 x5 HX HO2 HB2
            go_wp2_with (first
              | (with_reducible show wpList _ _ _ (⟨some 23, _, _, _, _, _⟩ :: _) _ _; go_loud (refine wpList_append_recs rfl (.tmp 18) (.tmp 22) rfl g u (.slice (some ⟨w4.heap.size, 0, none⟩) 1 1) RO [(kx, gx, ax, nx, sx)] rfl rfl HO5.out HON.out (by have := HRL.out; simp; omega) (by have := HB5.out.size; have := HG.out; omega) ?_); intro v6 w6 ho6 hg6)
              | fail)
            have HO6 := Go.Lib.hid (show OwnRec w6 g v6 (recsT TT (4 * b + (s + 1))) by rw [HRN.out]; exact ho6)
            have HB6 := Go.Lib.hid (HB5.out.grown hg6 (by have := HB5.out.size; have := HG.out; omega) (fun j hj => HO5.out.row j hj))
            clear ho6 hg6
            go_wp2_with fail
            exact ⟨⟨s + 1, _, rfl, by omega, by go_num, HO6, HB6⟩, by simp only [intOf]; omega⟩
        · obtain rfl : s = 4 := by omega
          go_wp2_with fail
          exact ⟨⟨b + 1, _, rfl, by omega, by go_num, HO, HB⟩, by simp only [intOf]; omega⟩
    · obtain rfl : b = 8 := by omega
      have CS := Go.Lib.hid (sortrecs_c wr g u (recsT TT 32) HO.out (by have := recsT_len TT 32; omega))
      have HBK := Go.Lib.hid (fun k hk => HO.out.row k hk)
      clear HO
      go_wp2_with fail
      refine CS.out.mono ?_
      rintro e w2 ⟨rfl, l', hp, hr, ho, hgr⟩
      have HF := Go.Lib.hid (And.intro hp (And.intro hr (And.intro ho (HB.out.grown hgr (by have := HB.out.size; have := HG.out; omega) HBK.out))))
      clear hp hr ho hgr CS
      go_wp2_with fail
      go_ret
      exact ⟨_, l', rfl, HF.out⟩
end Go.Proofs.YthbnecdeebmlhaaGreat

namespace Go.Proofs.YthbnecdeebmlhaaGreat
open Go.RowKit

/-- May y lie in bucket b? -/
def lieOk (b : Nat) (y : Bool × RecT) : Bool :=
  if y.1 then mayT y.2 && (b == firstN (hR y.2) || b == othN (firstN (hR y.2)) (tagN (hR y.2))) else decide (y.2 = nullR)

theorem isnull (kx : ByteArray) (gx : Bool) (ax nx : Int) (sx : ByteArray) : decide ((kx, gx, ax, nx, sx) = nullR) = eqRec kx gx ax nx sx ⟨#[]⟩ false 0 0 ⟨#[]⟩ := (eqRec_iff (kx, gx, ax, nx, sx) nullR).symm

set_option maxHeartbeats 4000000 in
set_option maxRecDepth 100000 in
theorem maylie_c (b : Nat) (hq : Bool) (kx : ByteArray) (gx : Bool) (ax nx : Int) (sx : ByteArray) (w : World) (h1 : kx.size ≤ 1000) (h2 : sx.size ≤ 1000) :
    Calls Tryz.prog 70 #[.agg #[.bool hq, .string kx, .bool gx, .int .i64 ax, .int .i64 nx, .string sx], .int .i64 (b : Int)] w fun e w' => e = .returned (.bool (lieOk b (hq, kx, gx, ax, nx, sx))) ∧ Below w.heap.size w w' := by
  have HX := Go.Lib.hid (heap_alloc_new w (.cells #[.bool hq, .string kx, .bool gx, .int .i64 ax, .int .i64 nx, .string sx] 40))
  have HB := Go.Lib.hid (below_one w (.cells #[.bool hq, .string kx, .bool gx, .int .i64 ax, .int .i64 nx, .string sx] 40))
  have CM := fun W => pmay_c kx gx ax nx sx W (by unfold maxLen; omega) (by unfold maxLen; omega)
  unfold recV at CM
  rw [show mayRec kx gx ax nx sx = mayT (kx, gx, ax, nx, sx) from rfl] at CM
  have CM := Go.Lib.hid CM
  have CH := Go.Lib.hid fun W => hof_k kx (hashS kx) rfl W (by omega)
  have CF := Go.Lib.hid fun W => hfirst_c (hashS kx) W (hashS_lt kx)
  have CT := Go.Lib.hid fun W => htag_c (hashS kx) W (hashS_lt kx)
  have HFL := Go.Lib.hid (first_lt (hashS kx))
  have HTL := Go.Lib.hid (tag_lt (hashS kx))
  have CO := fun W => hother_c (firstN (hashS kx) : Int) (tagN (hashS kx) : Int) W (by omega) (by have := HFL.out; omega) (by omega) (by have := HTL.out; omega)
  rw [otherI_nat HFL.out HTL.out] at CO
  have CO := Go.Lib.hid CO
  have HL := Go.Lib.hid (show lieOk b (hq, kx, gx, ax, nx, sx) = if hq then mayT (kx, gx, ax, nx, sx) && (b == firstN (hashS kx) || b == othN (firstN (hashS kx)) (tagN (hashS kx))) else decide ((kx, gx, ax, nx, sx) = nullR) from rfl)
  rw [isnull] at HL
  generalize lieOk b (hq, kx, gx, ax, nx, sx) = r at *
  clear h1 h2
  go_enter Tryz.func70, Tryz.ntmps70
  cases hq with
  | false =>
    simp only [Bool.false_eq_true, if_false] at HL
    clear CM CH CF CT CO HFL HTL
    have HE := HL.out
    unfold eqRec eqR at HE
    have HE := Go.Lib.hid HE
    clear HL
    go_wp2_with fail
    all_goals
      go_ret
      refine ⟨?_, below_one _ _⟩
      rw [HE.out]
      congr 2
      simp_all
  | true =>
    simp only [if_true] at HL
    go_wp2_with fail
    refine (CM.out _).mono ?_
    rintro e w1 ⟨rfl, hc⟩
    have HX1 := Go.Lib.hid (row_kept HX.out hc)
    have HB1 := Go.Lib.hid (HB.out.trans (hc.mono HB.out.size))
    obtain ⟨x0, x1, x2, x3, x4, x5⟩ := row6 HX1.out
    clear hc CM
    generalize mayT (kx, gx, ax, nx, sx) = m at *
    cases m with
    | false =>
      have HE := Go.Lib.hid (show r = false from by rw [HL.out]; rfl)
      obtain rfl := HE.out
      go_wp2_with fail
      go_ret
      exact ⟨rfl, HB1.out⟩
    | true =>
      rw [Bool.true_and] at HL
      go_wp2_with fail
      refine (CH.out _).mono ?_
      rintro e w2 ⟨rfl, hc⟩
      have HB2 := Go.Lib.hid (HB1.out.trans (hc.mono HB1.out.size))
      clear hc CH x0 x1 x2 x3 x4 x5 HX HX1 HB HB1
      go_wp2_with fail
      refine (CF.out _).mono ?_
      rintro e w3 ⟨rfl, rfl⟩
      generalize othN (firstN (hashS kx)) (tagN (hashS kx)) = fo at *
      generalize firstN (hashS kx) = ff at *
      generalize tagN (hashS kx) = ft at *
      generalize hashS kx = hx at *
      by_cases hbf : b = ff
      · have hbf1 : ((b : Int) == (ff : Int)) = true := beq_iff_eq.2 (by omega)
        have HE := Go.Lib.hid (show r = true from by rw [HL.out]; simp [hbf])
        obtain rfl := HE.out
        clear hbf
        go_wp2_with fail
        go_ret
        exact ⟨rfl, HB2.out⟩
      · have hbf1 : ((b : Int) == (ff : Int)) = false := beq_eq_false_iff_ne.2 (by omega)
        have HE := Go.Lib.hid (show r = (b == fo) from by rw [HL.out]; simp [hbf])
        clear hbf HL
        go_wp2_with fail
        refine (CT.out _).mono ?_
        rintro e w4 ⟨rfl, rfl⟩
        go_wp2_with fail
        refine (CO.out _).mono ?_
        rintro e w5 ⟨rfl, rfl⟩
        have hbo : ((b : Int) == (fo : Int)) = (b == fo) := by
          by_cases h : b = fo
          · subst h; simp
          · rw [beq_eq_false_iff_ne.2 h, beq_eq_false_iff_ne.2 (by omega)]
        obtain rfl := HE.out
        go_wp2_with fail
        go_ret
        exact ⟨rfl, HB2.out⟩
end Go.Proofs.YthbnecdeebmlhaaGreat

namespace Go.Proofs.YthbnecdeebmlhaaGreat
open Go.RowKit

def keysB (l : List RecT) : Bool := decide ((l.map keyR).Nodup)
theorem keysB_iff {l : List RecT} : keysB l = true ↔ KeysOk l := by unfold keysB KeysOk; exact decide_eq_true_iff
theorem keysB_perm {l m : List RecT} (h : l.Perm m) : keysB l = keysB m := by
  unfold keysB
  exact decide_eq_decide.2 (h.map keyR).nodup_iff
theorem keys_twice {l : List RecT} (_hr : RiseL l) (p : Nat) (hp : p + 1 < l.length) (he : keyR l[p] = keyR l[p + 1]) : keysB l = false := by
  rw [Bool.eq_false_iff]
  intro hc
  have := List.pairwise_iff_getElem.1 (List.pairwise_map.1 (keysB_iff.1 hc)) p (p + 1) (by omega) hp (by omega)
  exact this he
theorem keys_once {l : List RecT} (hr : RiseL l) (h : ∀ p (hp : p + 1 < l.length), keyR l[p] ≠ keyR l[p + 1]) : keysB l = true := by
  rw [keysB_iff]
  unfold KeysOk
  refine List.pairwise_map.2 (List.pairwise_iff_getElem.2 ?_)
  intro i j hi hj hij e
  unfold RiseL at hr
  have hr := List.pairwise_iff_getElem.1 hr
  refine h i (by omega) ?_
  rcases Nat.lt_or_ge (i + 1) j with h2 | h2
  · have r1 := hr i (i + 1) hi (by omega) (by omega)
    have r2 := hr (i + 1) j (by omega) hj h2
    rw [← e] at r2
    rcases less_tri (keyR l[i]) (keyR l[i + 1]) with h5 | h5 | h5
    · rw [h5] at r2; cases r2
    · exact h5
    · rw [h5] at r1; cases r1
  · obtain rfl : j = i + 1 := by omega
    exact e

set_option maxHeartbeats 2000000 in
set_option maxRecDepth 100000 in
theorem twice_c (v : Value) (l : List RecT) (w : World) (hv : RS w v l) (hr : RiseL l) (hl : l.length ≤ 1000) :
    Calls Tryz.prog 71 #[v] w fun e w' => e = .returned (.bool (!keysB l)) ∧ Below w.heap.size w w' := by
  obtain ⟨a, cap, rfl, hm⟩ := hv.form
  have HR := Go.Lib.hid hv
  have HK := Go.Lib.hid hr
  have HBR := Go.Lib.hid (Below.refl w.heap.size w)
  have HYES := Go.Lib.hid (fun p (hp : p + 1 < l.length) he => keys_twice hr p hp he)
  have HNO := Go.Lib.hid (fun h => keys_once hr h)
  clear hv hr
  generalize keysB l = q at *
  go_enter Tryz.func71, Tryz.ntmps71
  go_wp2_with fail
  go_loopw [3] (fun ii wr => ∃ p : Nat, ii = .int .i64 ((p : Int) + 1) ∧ p ≤ l.length ∧ Hid (∀ j (hj : j + 1 < l.length), j < p → keyR l[j] ≠ keyR l[j + 1]) ∧ Hid (Below w.heap.size w wr)) (fun ii _ => 2000 - (intOf ii).toNat)
  case atStart => exact ⟨0, rfl, by omega, Go.Lib.hid (fun j _ h => absurd h (by omega)), HBR⟩
  case round =>
    obtain ⟨p, rfl, hp, HN, HB⟩ := hrel
    by_cases hlt : p + 1 < l.length
    · have hltI : (p : Int) + 1 < (l.length : Int) := by omega
      obtain ⟨b, o, rfl, -, -, c0, c1, c2, c3, c4⟩ := (HR.out.below HB.out).at p (by omega)
      obtain ⟨b', o', he, -, -, d0, d1, d2, d3, d4⟩ := (HR.out.below HB.out).at (p + 1) hlt
      simp only [Option.some.injEq, Addr.mk.injEq] at he
      obtain ⟨rfl, rfl, -⟩ := he
      have hix := run_idx5 b o l.length cap p (by omega)
      have hix2 : ∀ W, (Instr.indexAt 22 (.slice (some ⟨b, o, none⟩) l.length cap) (.int .i64 ((p : Int) + 1))).run Tryz.prog W = .ok (.pointer (some ⟨b, o + (p + 1) * 5, none⟩)) W := fun W => by
        have := run_idx5 b o l.length cap (p + 1) hlt W
        simpa using this
      have HY := Go.Lib.hid (HYES.out p hlt)
      have HNX := Go.Lib.hid (fun (h : keyR l[p] ≠ keyR l[p + 1]) => show ∀ j (hj : j + 1 < l.length), j < p + 1 → keyR l[j] ≠ keyR l[j + 1] from fun j hj h2 => by
        rcases Nat.lt_or_ge j p with h3 | h3
        · exact HN.out j hj h3
        · obtain rfl : j = p := by omega
          exact h)
      clear HN
      unfold keyR at HY
      rw [show keyR l[p] = l[p].1.toList from rfl, show keyR l[p + 1] = l[p + 1].1.toList from rfl] at HNX
      generalize l[p].1 = kx at *
      generalize l[p + 1].1 = ky at *
      clear c1 c2 c3 c4 d1 d2 d3 d4
      by_cases hq : kx.toList = ky.toList
      · have hqb : (kx.toList == ky.toList) = true := beq_iff_eq.2 hq
        have HE := Go.Lib.hid (HY.out hq)
        clear hq HY HNX
        go_upto_region 4 with (fail)
        go_quiet (fail)
        have HB2 := Go.Lib.hid (HB.out.trans ((below_drewN (Below.refl _ _) nq).mono HB.out.size))
        go_wp2_with fail
        go_ret
        exact ⟨by rw [HE.out]; rfl, HB2.out⟩
      · have hqb : (kx.toList == ky.toList) = false := beq_eq_false_iff_ne.2 hq
        have HE := Go.Lib.hid (HNX.out hq)
        clear hq HY HNX
        go_upto_region 4 with (fail)
        go_quiet (fail)
        have HB2 := Go.Lib.hid (HB.out.trans ((below_drewN (Below.refl _ _) nq).mono HB.out.size))
        clear c0 d0 hix hix2
        generalize wr.drewN nq = w2 at *
        go_wp2_with fail
        exact ⟨⟨p + 1, by go_num, by omega, HE, HB2⟩, by simp only [intOf]; omega⟩
    · have hltI : ¬ (p : Int) + 1 < (l.length : Int) := by omega
      have HE := Go.Lib.hid (HNO.out (fun j hj => HN.out j hj (by omega)))
      go_wp2_with fail
      go_ret
      exact ⟨by rw [HE.out]; rfl, HB.out⟩

/-! ### May -/
def lieTo (TT : TabT) (n : Nat) : Bool := (List.range n).all fun q => lieOk (q / 4) (TT q)
theorem lieTo_succ (TT : TabT) (n : Nat) : lieTo TT (n + 1) = (lieTo TT n && lieOk (n / 4) (TT n)) := by unfold lieTo; rw [List.range_succ, List.all_append]; simp
theorem lieTo_bad {TT : TabT} {q n : Nat} (h : lieOk (q / 4) (TT q) = false) (hq : q < n) : lieTo TT n = false := by
  unfold lieTo
  rw [List.all_eq_false]
  exact ⟨q, List.mem_range.2 hq, by simp [h]⟩
theorem keysB_snoc (l : List RecT) (x : RecT) : keysB (l ++ [x]) = (keysB l && !(l.map Prod.fst).any fun k => decide (k = x.1)) := by
  have hk : ∀ y : RecT, keyR y = keyR x ↔ y.1 = x.1 := fun y => keyR_eq
  by_cases h1 : KeysOk l
  · have h2 := keysB_iff.2 h1
    rw [h2, Bool.true_and]
    by_cases h3 : (l.map Prod.fst).any (fun k => decide (k = x.1)) = true
    · rw [h3]
      rw [Bool.not_true, Bool.eq_false_iff]
      intro hc
      obtain ⟨k, hkm, hke⟩ := List.any_eq_true.1 h3
      obtain ⟨y, hy, rfl⟩ := List.mem_map.1 hkm
      have hc := keysB_iff.1 hc
      unfold KeysOk at hc
      rw [List.map_append] at hc
      exact (List.nodup_append.1 hc).2.2 (keyR y) (List.mem_map.2 ⟨y, hy, rfl⟩) (keyR x) (by simp) ((hk y).2 (of_decide_eq_true hke))
    · rw [Bool.not_eq_true] at h3
      rw [h3, Bool.not_false, keysB_iff]
      refine h1.snoc fun y hy e => ?_
      rw [List.any_eq_false] at h3
      exact h3 y.1 (List.mem_map.2 ⟨y, hy, rfl⟩) (by simpa using (hk y).1 e)
  · have h2 : keysB l = false := by
      rw [Bool.eq_false_iff]
      exact fun h => h1 (keysB_iff.1 h)
    rw [h2, Bool.false_and, Bool.eq_false_iff]
    intro hc
    have hc := keysB_iff.1 hc
    unfold KeysOk at hc h1
    rw [List.map_append] at hc
    exact h1 (List.nodup_append.1 hc).1
theorem ok_split (TT : TabT) : ∀ n, okTo TT n = (lieTo TT n && keysB (recsT TT n))
  | 0 => rfl
  | n + 1 => by
    rw [okTo_succ, ok_split TT n, lieTo_succ, recsT_succ]
    unfold okSlot lieOk
    cases h : (TT n).1 with
    | false => simp only [Bool.false_eq_true, if_false, List.append_nil]; cases lieTo TT n <;> cases keysB (recsT TT n) <;> simp
    | true =>
      simp only [if_true]
      rw [keysB_snoc]
      show _ = _
      have : keysT TT n = (recsT TT n).map Prod.fst := rfl
      rw [this]
      cases lieTo TT n <;> cases keysB (recsT TT n) <;> cases mayT (TT n).2 <;> simp

set_option maxHeartbeats 4000000 in
set_option maxRecDepth 100000 in
theorem omay_c (TT : TabT) (w : World) (hs : ∀ q, q < 32 → (TT q).2.1.size ≤ 1000 ∧ (TT q).2.2.2.2.2.size ≤ 1000) :
    Calls Tryz.prog 42 #[.agg (tabL TT 32).toArray] w fun e w' => e = .returned (.bool (okTo TT 32)) ∧ Below w.heap.size w w' := by
  have HRG := Go.Lib.hid (TO.new w TT)
  have HB := Go.Lib.hid (below_one w (.cells (tabL TT 32).toArray 43))
  have HS := Go.Lib.hid hs
  have HV := Go.Lib.hid (tabV TT)
  have HRA := Go.Lib.hid (fun (W : World) g (h : TO W g TT) => h.range)
  have CL := Go.Lib.hid fun W => olist_c TT W hs
  have HOK := Go.Lib.hid (ok_split TT 32)
  clear hs
  generalize tabL TT 32 = TL at *
  generalize (fun b => (rowL TT b).toArray) = RL at *
  generalize (rowL (fun _ => (false, nullR)) 0).toArray = Z at *
  generalize okTo TT 32 = R at *
  obtain ⟨g, hg⟩ : ∃ g, g = w.heap.size := ⟨_, rfl⟩
  have HG := Go.Lib.hid hg
  rw [← hg] at HRG HB ⊢
  clear hg
  have hz := HV.out.zero
  go_enter Tryz.func42, Tryz.ntmps42
  go_upto_region 1 with (fail)
  rw [← HG.out]
  generalize w.alloc (.cells TL.toArray 43) = w1 at *
  have HRX := Go.Lib.hid (HRA.out _ _ HRG.out)
  go_wp2_with (first
    | (with_reducible show wpList _ _ _ (⟨some 7, _, _, _, _, _⟩ :: _) _ _; go_loud (refine wpList_load_mid rfl 43 (.tmp 1) rfl g 0 rfl TL _ HRX.out Tryz.underlying43 rfl HV.out.size ?_))
    | fail)
  go_loopw [8] (fun bv wr => ∃ (b : Nat), b ≤ 8 ∧ bv = .int .i64 (b : Int) ∧ Hid (lieTo TT (4 * b) = true) ∧ Hid (TO wr g TT) ∧ Hid (Below g w wr)) (fun bv _ => 8 - (intOf bv).toNat)
  case atStart => exact ⟨0, by omega, rfl, Go.Lib.hid rfl, HRG, HB⟩
  case round =>
    clear HRX HRG HB
    obtain ⟨b, hb, rfl, HO, HT, HB⟩ := hrel
    by_cases hlt : b < 8
    · have hltI : (b : Int) < 8 := by omega
      have hix := HV.out.row b hlt
      have hgw : g ≤ wr.heap.size := by have := HB.out.size; have := HG.out; omega
      have hb2 := below_one wr (.cells Z 41)
      have HZ := Go.Lib.hid (heap_alloc_new wr (.cells Z 41))
      have HX := Go.Lib.hid (setRow_heap _ wr.heap.size _ (RL b) 41 (0, 0) HZ.out)
      have hb3 := setRow_below (RL b) hb2 (Nat.le_refl _)
      have HB2 := Go.Lib.hid (HB.out.trans (hb3.mono hgw))
      have HT2 := Go.Lib.hid (HT.out.below hb3)
      clear hb2 hb3 HB HT
      go_upto_region 4 with (first
        | (with_reducible show wpList _ _ _ (⟨none, Op.store 41 (.tmp 4) (.tmp 11), _, _, _, _⟩ :: _) _ _; go_loud (refine wpList_store_row rfl 41 (.tmp 4) (.tmp 11) rfl wr.heap.size (RL b) rfl rfl 41 Z HZ.out (HV.out.rsize b) (HV.out.zsize b) (HV.out.rone b) ?_))
        | fail)
      obtain ⟨g2, hg2⟩ : ∃ g2, g2 = wr.heap.size := ⟨_, rfl⟩
      rw [← hg2] at HX HT2 HB2 ⊢
      clear hg2 HZ hix hz hgw
      generalize (wr.alloc (.cells Z 41)).setRow g2 (RL b) = w2 at *
      go_wp2_with (first
        | (with_reducible show wpList _ _ _ (⟨some 12, _, _, _, _, _⟩ :: _) _ _; go_loud (refine wpList_load_row rfl 41 (.tmp 4) rfl g2 rfl 41 (RL b) (0, 0) _ HX.out Tryz.underlying41 rfl (HV.out.rsize b) ?_))
        | fail)
      go_loopw [13] (fun sv wr => ∃ (s : Nat), s ≤ 4 ∧ sv = .int .i64 (s : Int) ∧ Hid (lieTo TT (4 * b + s) = true) ∧ Hid (TO wr g TT) ∧ Hid (Below g w wr)) (fun sv _ => 4 - (intOf sv).toNat)
      case atStart => exact ⟨0, by omega, rfl, HO, HT2, HB2⟩
      case round =>
        clear HT2 HB2 HX HO
        obtain ⟨s, hs4, rfl, HO, HT, HB⟩ := hrel
        by_cases hslt : s < 4
        · have hsI : (s : Int) < 4 := by omega
          have hgw : g ≤ wr.heap.size := by have := HB.out.size; have := HG.out; omega
          have hix2 := HV.out.slot b s hslt
          rw [slot6] at hix2
          have hsz := HS.out (4 * b + s) (by omega)
          have HGOOD := Go.Lib.hid (fun (h : lieOk b (TT (4 * b + s)) = true) => show lieTo TT (4 * b + (s + 1)) = true from by rw [show 4 * b + (s + 1) = (4 * b + s) + 1 by omega, lieTo_succ, HO.out, show (4 * b + s) / 4 = b by omega, h]; rfl)
          have HBAD := Go.Lib.hid (fun (h : lieOk b (TT (4 * b + s)) = false) => show R = false from by rw [HOK.out, lieTo_bad (q := 4 * b + s) (by rw [show (4 * b + s) / 4 = b by omega]; exact h) (by omega)]; rfl)
          generalize TT (4 * b + s) = y at *
          obtain ⟨hq, kx, gx, ax, nx, sx⟩ := y
          simp only [] at hix2 hsz HGOOD HBAD
          have hbA := below_one wr (.cells #[.bool hq, .string kx, .bool gx, .int .i64 ax, .int .i64 nx, .string sx] 40)
          have HX := Go.Lib.hid (heap_alloc_new wr (.cells #[.bool hq, .string kx, .bool gx, .int .i64 ax, .int .i64 nx, .string sx] 40))
          have HT2 := Go.Lib.hid (HT.out.below hbA)
          have HB2 := Go.Lib.hid (HB.out.trans (hbA.mono hgw))
          have CF := Go.Lib.hid fun W => maylie_c b hq kx gx ax nx sx W hsz.1 hsz.2
          generalize lieOk b (hq, kx, gx, ax, nx, sx) = r at *
          clear hbA hsz HO HB HT
          go_upto_region 7 with (fail)
          obtain ⟨g3, hg3⟩ : ∃ g, g = wr.heap.size := ⟨_, rfl⟩
          rw [← hg3] at HX ⊢
          clear hg3 hix2
          generalize wr.alloc (.cells #[.bool hq, .string kx, .bool gx, .int .i64 ax, .int .i64 nx, .string sx] 40) = w3 at *
          obtain ⟨x0, x1, x2, x3, x4, x5⟩ := row6 HX.out
          go_wp2_with fail
          refine (CF.out _).mono ?_
          rintro e w4 ⟨rfl, hc⟩
          have HT4 := Go.Lib.hid (HT2.out.below hc)
          have HB4 := Go.Lib.hid (HB2.out.trans (hc.mono (by have := HB2.out.size; have := HG.out; omega)))
          clear hc CF x0 x1 x2 x3 x4 x5 HX HT2 HB2
          cases r with
          | false =>
            have HE := Go.Lib.hid (HBAD.out rfl)
            go_wp2_with fail
            go_ret
            exact ⟨by rw [HE.out]; rfl, HB4.out⟩
          | true =>
            have HE := Go.Lib.hid (HGOOD.out rfl)
            go_wp2_with fail
            exact ⟨⟨s + 1, by omega, by go_num, HE, HT4, HB4⟩, by simp only [intOf]; omega⟩
        · obtain rfl : s = 4 := by omega
          go_wp2_with fail
          exact ⟨⟨b + 1, by omega, by go_num, HO, HT, HB⟩, by simp only [intOf]; omega⟩
    · obtain rfl : b = 8 := by omega
      rw [HO.out, Bool.true_and] at HOK
      have HRX := Go.Lib.hid (HRA.out _ _ HT.out)
      go_wp2_with (first
        | (with_reducible show wpList _ _ _ (⟨some 22, _, _, _, _, _⟩ :: _) _ _; go_loud (refine wpList_load_mid rfl 43 (.tmp 1) rfl g 0 rfl TL _ HRX.out Tryz.underlying43 rfl HV.out.size ?_))
        | fail)
      refine (CL.out _).mono ?_
      rintro e w2 ⟨v2, l2, rfl, hp, hr, ho, hc⟩
      have hl2 : l2.length ≤ 1000 := by have := hp.length_eq; have := recsT_len TT 32; omega
      have CT := twice_c v2 l2 w2 ho.rs hr hl2
      rw [keysB_perm hp, ← HOK.out] at CT
      have CT := Go.Lib.hid CT
      have HB2 := Go.Lib.hid (HB.out.trans (hc.mono (by have := HB.out.size; have := HG.out; omega)))
      clear hp hr ho hc hl2 CL
      go_wp2_with fail
      refine CT.out.mono ?_
      rintro e w3 ⟨rfl, hc⟩
      have HB3 := Go.Lib.hid (HB2.out.trans (hc.mono (by have := HB2.out.size; have := HG.out; omega)))
      clear hc CT
      go_wp2_with fail
      go_ret
      exact ⟨by simp, HB3.out⟩
end Go.Proofs.YthbnecdeebmlhaaGreat

namespace Go.Proofs.YthbnecdeebmlhaaGreat
open Go.RowKit
open Go.Lib (uvarint zigzag)

/-! ### Numbers: what is read is written so. -/
theorem unzig_of (u : Nat) : zigzag (unzig u) = u := by
  unfold unzig zigzag
  split <;> split <;> omega

theorem getS_canon : ∀ (l : List UInt8) (k u : Nat) (n : Int) (m : Nat), k ≤ 9 → getS l k u = (n, m, 0) →
    ∃ x r, n = unzig (u + x * 128 ^ k) ∧ m = k + (uvarint x).length ∧ l = uvarint x ++ r ∧ (0 < k → 0 < x)
  | [], k, u, n, m, _, h => by simp [getS] at h
  | c :: r, k, u, n, m, hk, h => by
    rw [getS] at h
    have hc : c.toNat < 256 := c.toNat_lt
    split at h
    · simp at h
    · rename_i h9
      split at h
      · rename_i h128
        by_cases hk9 : k = 9
        · exact absurd ⟨hk9, by omega⟩ h9
        · obtain ⟨x, r', e1, e2, e3, e4⟩ := getS_canon r (k + 1) _ n m (by omega) h
          have hx := e4 (by omega)
          refine ⟨c.toNat % 128 + 128 * x, r', ?_, ?_, ?_, fun _ => by omega⟩
          · rw [e1, Nat.pow_succ]
            congr 1
            rw [Nat.add_mul, Nat.mul_assoc, Nat.mul_comm 128 (x * 128 ^ k), Nat.mul_assoc]
            omega
          · rw [Go.Lib.uvarint_big (by omega), e2, show (c.toNat % 128 + 128 * x) / 128 = x by omega, List.length_cons]
            omega
          · rw [Go.Lib.uvarint_big (by omega), show (c.toNat % 128 + 128 * x) / 128 = x by omega, show (c.toNat % 128 + 128 * x) % 128 + 128 = c.toNat by omega, e3]
            simp
      · split at h
        · simp at h
        · rename_i h1 h2
          simp only [Prod.mk.injEq, and_true] at h
          obtain ⟨rfl, rfl⟩ := h
          refine ⟨c.toNat, r, rfl, ?_, ?_, fun hk0 => by omega⟩
          · rw [Go.Lib.uvarint_small (by omega)]; simp
          · rw [Go.Lib.uvarint_small (by omega)]
            simp

theorem getB_canon {l : List UInt8} {n : Int} {m : Nat} (h : getB l = (n, m, 0)) : m = (uvarint (zigzag n)).length ∧ l = uvarint (zigzag n) ++ l.drop m := by
  obtain ⟨x, r, e1, e2, e3, -⟩ := getS_canon l 0 0 n m (by omega) h
  simp only [Nat.pow_zero, Nat.mul_one, Nat.zero_add] at e1 e2
  have hx : zigzag n = x := by rw [e1, unzig_of]
  rw [hx]
  refine ⟨e2, ?_⟩
  rw [e2]
  conv => rhs; rw [e3]
  simp [e3]

theorem textB_canon {l s : List UInt8} {m : Nat} (h : textB l = (s, m, 0)) : s.length ≤ 65536 ∧ l = putT s ++ l.drop m := by
  unfold textB at h
  split at h
  · rename_i h0
    simp only [Prod.mk.injEq] at h
    exact absurd h.2.2 h0
  · split at h
    · simp at h
    · split at h
      · simp at h
      · rename_i h0 h1 h2
        simp only [Prod.mk.injEq, and_true] at h
        obtain ⟨rfl, rfl⟩ := h
        have h0 : (getB l).2.2 = 0 := Classical.byContradiction fun hh => h0 hh
        rcases hr : getB l with ⟨n, k, e⟩
        rw [hr] at h0 h1 h2
        simp only [] at h0 h1 h2
        subst h0
        obtain ⟨-, e2⟩ := getB_canon hr
        have hsl : ((l.drop k).take n.toNat).length = n.toNat := by rw [List.length_take, List.length_drop]; omega
        refine ⟨by rw [hsl]; omega, ?_⟩
        unfold putT
        rw [hsl, show ((n.toNat : Nat) : Int) = n by omega, List.append_assoc, ← List.drop_drop, List.take_append_drop]
        exact e2

end Go.Proofs.YthbnecdeebmlhaaGreat

namespace Go.Proofs.YthbnecdeebmlhaaGreat
open Go.RowKit
open Go.Lib (uvarint zigzag)

/-- Key, Gone, Kind, N, S; how many bytes; the error. -/
abbrev RdT := (List UInt8 × Bool × Int × Int × List UInt8) × Nat × Int
def rdErr (e : Int) : RdT := (([], false, 0, 0, []), 0, e)
def readB (l : List UInt8) : RdT :=
  if (textB l).2.2 ≠ 0 then rdErr (textB l).2.2
  else if mayK (str (textB l).1) = false then rdErr 1
  else if (getB (l.drop (textB l).2.1)).2.2 ≠ 0 then rdErr (getB (l.drop (textB l).2.1)).2.2
  else if (getB (l.drop (textB l).2.1)).1 = 0 then (((textB l).1, true, 0, 0, []), (textB l).2.1 + (getB (l.drop (textB l).2.1)).2.1, 0)
  else if (valB (l.drop (textB l).2.1)).2.2 ≠ 0 then rdErr (valB (l.drop (textB l).2.1)).2.2
  else (((textB l).1, false, (valB (l.drop (textB l).2.1)).1), (textB l).2.1 + (valB (l.drop (textB l).2.1)).2.1, 0)

section
variable {l key : List UInt8} {p m q : Nat} {x e e2 e3 : Int} {v : Int × Int × List UInt8}
theorem readB_e1 (h : textB l = (key, p, e)) (he : e ≠ 0) : readB l = rdErr e := by
  unfold readB; rw [h]; simp [he]
theorem readB_e2 (h : textB l = (key, p, 0)) (hk : mayK (str key) = false) : readB l = rdErr 1 := by
  unfold readB; rw [h]; simp [hk]
theorem readB_e3 (h : textB l = (key, p, 0)) (hk : mayK (str key) = true) (g : getB (l.drop p) = (x, m, e2)) (he : e2 ≠ 0) : readB l = rdErr e2 := by
  unfold readB; rw [h]; simp only []; rw [g]; simp [hk, he]
theorem readB_gone (h : textB l = (key, p, 0)) (hk : mayK (str key) = true) (g : getB (l.drop p) = (0, m, 0)) : readB l = ((key, true, 0, 0, []), p + m, 0) := by
  unfold readB; rw [h]; simp only []; rw [g]; simp [hk]
theorem readB_e4 (h : textB l = (key, p, 0)) (hk : mayK (str key) = true) (g : getB (l.drop p) = (x, m, 0)) (hx : x ≠ 0) (u : valB (l.drop p) = (v, q, e3)) (he : e3 ≠ 0) : readB l = rdErr e3 := by
  unfold readB; rw [h]; simp only []; rw [g, u]; simp [hk, hx, he]
theorem readB_ok (h : textB l = (key, p, 0)) (hk : mayK (str key) = true) (g : getB (l.drop p) = (x, m, 0)) (hx : x ≠ 0) (u : valB (l.drop p) = (v, q, 0)) : readB l = ((key, false, v), p + q, 0) := by
  unfold readB; rw [h]; simp only []; rw [g, u]; simp [hk, hx]
end

theorem textB_fits (l : List UInt8) : (textB l).2.1 ≤ l.length ∧ (textB l).2.1 ≤ 70000 ∧ (textB l).1.length ≤ 65536 ∧ ((textB l).2.2 = 0 ∨ (textB l).2.2 = 1 ∨ (textB l).2.2 = 2) := by
  have hf := getB_fits l
  unfold textB
  split
  · exact ⟨by simp, by simp, by simp, hf.2.2.2.1⟩
  · split
    · simp
    · split
      · simp
      · rename_i c1 c2 c3
        simp only [not_or, Int.not_lt, Nat.not_lt] at c2 c3
        obtain ⟨c4, c5⟩ := c2
        have c6 : (getB l).1.toNat ≤ 65536 := by omega
        refine ⟨?_, ?_, ?_, .inl rfl⟩
        · show (getB l).2.1 + (getB l).1.toNat ≤ l.length; exact c3
        · show (getB l).2.1 + (getB l).1.toNat ≤ 70000; omega
        · show ((l.drop _).take _).length ≤ 65536; rw [List.length_take]; omega
theorem valB_fits (l : List UInt8) : (valB l).2.1 ≤ l.length ∧ (valB l).2.1 ≤ 70010 ∧ ((valB l).2.2 = 0 ∨ (valB l).2.2 = 1 ∨ (valB l).2.2 = 2) ∧ (valB l).1.2.2.length ≤ 65536 := by
  have hf := getB_fits l
  have hf2 := getB_fits (l.drop (getB l).2.1)
  have ht2 := textB_fits (l.drop (getB l).2.1)
  rw [List.length_drop] at hf2 ht2
  unfold valB
  split
  · split
    · split
      · simp; omega
      · simp; omega
    · split
      · split
        · split
          · simp; omega
          · simp
        · simp; omega
      · simp
  · simp; omega

theorem mayRec_key {key : ByteArray} {gone : Bool} {k n : Int} {s : ByteArray} (h : mayRec key gone k n s = true) : mayK key = true ∧ key.size ≤ 16 := by
  unfold mayRec at h
  rw [Bool.and_eq_true] at h
  have h1 := h.1
  unfold mayK at h1
  rw [Bool.and_eq_true, decide_eq_true_eq, decide_eq_true_eq] at h1
  exact ⟨h.1, h1.2⟩
theorem mayRec_gone {key : ByteArray} {k n : Int} {s : List UInt8} (h : mayRec key true k n (str s) = true) : k = 0 ∧ n = 0 ∧ s = [] := by
  unfold mayRec at h
  rw [Bool.and_eq_true] at h
  have h1 := h.2
  simp only [if_true] at h1
  rw [Bool.and_eq_true, Bool.and_eq_true, beq_iff_eq, beq_iff_eq, ByteArray.toList_eq, List.isEmpty_iff] at h1
  exact ⟨h1.1.1, h1.1.2, by simpa [str] using h1.2⟩
theorem mayRec_val {key : ByteArray} {k n : Int} {s : ByteArray} (h : mayRec key false k n s = true) : mayR k n s = true := by
  unfold mayRec at h
  rw [Bool.and_eq_true] at h
  simpa using h.2

/-- What was written is told again. -/
theorem readB_put (key : List UInt8) (gone : Bool) (k n : Int) (s r : List UInt8) (h : mayRec (str key) gone k n (str s) = true) (h0 : -9223372036854775808 ≤ n) (h1 : n ≤ 9223372036854775807) : readB (recB key gone k n s ++ r) = ((key, gone, k, n, s), (recB key gone k n s).length, 0) := by
  obtain ⟨hk, hk16⟩ := mayRec_key h
  rw [str_size] at hk16
  cases gone with
  | true =>
    obtain ⟨rfl, rfl, rfl⟩ := mayRec_gone h
    have e1 : recB key true 0 0 [] = putT key ++ uvarint (zigzag 0) := rfl
    have t1 := textB_put key (uvarint (zigzag 0) ++ r) (by omega)
    have g1 := getB_put 0 (by omega) (by omega) r
    rw [e1, List.append_assoc, readB_gone t1 hk (m := (uvarint (zigzag 0)).length) (by rw [List.drop_left]; exact g1), List.length_append]
  | false =>
    have hv := mayRec_val h
    have e1 : recB key false k n s = putT key ++ putV k n s := rfl
    have t1 := textB_put key (putV k n s ++ r) (by omega)
    have v1 := valB_put k n s r hv h0 h1
    have hkk : k = 1 ∨ k = 2 := by
      rcases mayR_cases hv with ⟨h, -⟩ | ⟨h, -⟩
      · exact .inl h
      · exact .inr h
    obtain ⟨rest, hr⟩ : ∃ rest, putV k n s ++ r = uvarint (zigzag k) ++ rest := ⟨_, by unfold putV; rw [List.append_assoc]⟩
    have g1 := getB_put k (by omega) (by omega) rest
    rw [← hr] at g1
    rw [e1, List.append_assoc, readB_ok t1 hk (by rw [List.drop_left]; exact g1) (by omega) (by rw [List.drop_left]; exact v1), List.length_append]

theorem putV_len {k n : Int} {s : List UInt8} (h : mayR k n (str s) = true) (h0 : -9223372036854775808 ≤ n) (h1 : n ≤ 9223372036854775807) : 2 ≤ (putV k n s).length ∧ (putV k n s).length ≤ 100 := by
  rcases mayR_cases h with ⟨rfl, rfl⟩ | ⟨rfl, rfl, hs⟩
  · have e1 := Go.Lib.uvarint_length64 (Go.Lib.zigzag_lt (x := 1) (by omega) (by omega))
    have e2 := Go.Lib.uvarint_length64 (Go.Lib.zigzag_lt h0 h1)
    have p1 := Go.Lib.uvarint_pos (zigzag 1)
    have p2 := Go.Lib.uvarint_pos (zigzag n)
    unfold putV
    rw [if_pos rfl, List.length_append]
    omega
  · have e1 := Go.Lib.uvarint_length64 (Go.Lib.zigzag_lt (x := 2) (by omega) (by omega))
    have e2 := Go.Lib.uvarint_length64 (Go.Lib.zigzag_lt (x := (s.length : Int)) (by omega) (by omega))
    have p1 := Go.Lib.uvarint_pos (zigzag 2)
    have p2 := Go.Lib.uvarint_pos (zigzag s.length)
    unfold putV putT
    rw [if_neg (by omega), List.length_append, List.length_append]
    omega
theorem recB_len {key : List UInt8} {gone : Bool} {k n : Int} {s : List UInt8} (h : mayRec (str key) gone k n (str s) = true) (h0 : -9223372036854775808 ≤ n) (h1 : n ≤ 9223372036854775807) : 2 ≤ (recB key gone k n s).length ∧ (recB key gone k n s).length ≤ 200 := by
  obtain ⟨hk, hk16⟩ := mayRec_key h
  rw [str_size] at hk16
  have e2 := Go.Lib.uvarint_length64 (Go.Lib.zigzag_lt (x := (key.length : Int)) (by omega) (by omega))
  have p2 := Go.Lib.uvarint_pos (zigzag key.length)
  unfold recB putT
  rw [List.length_append, List.length_append]
  cases gone with
  | true =>
    have e3 := Go.Lib.uvarint_length64 (Go.Lib.zigzag_lt (x := 0) (by omega) (by omega))
    have p3 := Go.Lib.uvarint_pos (zigzag 0)
    simp only [if_true]
    omega
  | false =>
    have := putV_len (mayRec_val h) h0 h1
    simp only [Bool.false_eq_true, if_false]
    omega
end Go.Proofs.YthbnecdeebmlhaaGreat

namespace Go.Proofs.YthbnecdeebmlhaaGreat
open Go.RowKit
open Go.Lib (uvarint zigzag)

/-! ### A value, a record: what is read is written so. -/
theorem valB_canon {l s : List UInt8} {k n : Int} {m : Nat} (h : valB l = ((k, n, s), m, 0)) :
    mayR k n (str s) = true ∧ (-9223372036854775808 ≤ n ∧ n ≤ 9223372036854775807) ∧ l = putV k n s ++ l.drop m := by
  rcases hr : getB l with ⟨x, p, e⟩
  by_cases he : e = 0
  · subst he
    have c1 := (getB_canon hr).2
    by_cases h1 : x = 1
    · subst h1
      rcases hg : getB (l.drop p) with ⟨y, q, e2⟩
      rw [valB_num l p q y e2 hr hg] at h
      by_cases h2 : e2 = 0
      · subst h2
        rw [if_pos rfl] at h
        simp only [Prod.mk.injEq, and_true] at h
        obtain ⟨⟨rfl, rfl, rfl⟩, rfl⟩ := h
        have c2 := (getB_canon hg).2
        have f2 := getB_fits (l.drop p)
        rw [hg] at f2
        simp only [] at f2
        refine ⟨by simp [mayR, str, ByteArray.toList_eq], by omega, ?_⟩
        have e1 : putV 1 y [] = uvarint (zigzag 1) ++ uvarint (zigzag y) := by simp [putV]
        rw [e1, List.append_assoc, ← List.drop_drop, ← c2]
        exact c1
      · rw [if_neg h2] at h
        simp only [Prod.mk.injEq] at h
        exact absurd h.2.2 h2
    · by_cases h2 : x = 2
      · subst h2
        rcases hg : textB (l.drop p) with ⟨y, q, e2⟩
        rw [valB_text l y p q e2 hr hg] at h
        by_cases h3 : e2 = 0
        · subst h3
          rw [if_pos rfl] at h
          by_cases h4 : mayR 2 0 (str y) = true
          · rw [if_pos h4] at h
            simp only [Prod.mk.injEq, and_true] at h
            obtain ⟨⟨rfl, rfl, rfl⟩, rfl⟩ := h
            have c2 := (textB_canon hg).2
            refine ⟨h4, by omega, ?_⟩
            have e1 : putV 2 0 y = uvarint (zigzag 2) ++ putT y := by simp [putV]
            rw [e1, List.append_assoc, ← List.drop_drop, ← c2]
            exact c1
          · rw [if_neg h4] at h
            simp at h
        · rw [if_neg h3] at h
          simp only [Prod.mk.injEq] at h
          exact absurd h.2.2 h3
      · rw [valB_else l x p hr h1 h2] at h
        simp at h
  · rw [valB_err l x e p hr he] at h
    simp only [Prod.mk.injEq] at h
    exact absurd h.2.2 he

/-- Key, Gone, Kind, N, S, as the program holds them. -/
def unR (r : List UInt8 × Bool × Int × Int × List UInt8) : RecT := (str r.1, r.2.1, r.2.2.1, r.2.2.2.1, str r.2.2.2.2)
def recT (x : RecT) : List UInt8 := recB (bl x.1) x.2.1 x.2.2.1 x.2.2.2.1 (bl x.2.2.2.2)

theorem readB_canon {l : List UInt8} {r : List UInt8 × Bool × Int × Int × List UInt8} {m : Nat} (h : readB l = (r, m, 0)) :
    mayT (unR r) = true ∧ RecOk (unR r) ∧ l = recT (unR r) ++ l.drop m ∧ m ≤ l.length := by
  rcases hr : textB l with ⟨key, p, e⟩
  by_cases he : e = 0
  · subst he
    have c1 := (textB_canon hr).2
    have f1 := textB_fits l
    rw [hr] at f1
    simp only [] at f1
    cases hk : mayK (str key) with
    | false =>
      rw [readB_e2 hr hk] at h
      simp [rdErr] at h
    | true =>
      have hk16 : (str key).size ≤ 16 := by
        have h1 := hk
        unfold mayK at h1
        rw [Bool.and_eq_true, decide_eq_true_eq, decide_eq_true_eq] at h1
        exact h1.2
      rcases hg : getB (l.drop p) with ⟨x, q, e2⟩
      have f2 := getB_fits (l.drop p)
      rw [hg] at f2
      simp only [List.length_drop] at f2
      by_cases h2 : e2 = 0
      · subst h2
        by_cases hx : x = 0
        · subst hx
          rw [readB_gone hr hk hg] at h
          simp only [Prod.mk.injEq, and_true] at h
          obtain ⟨rfl, rfl⟩ := h
          have c2 := (getB_canon hg).2
          refine ⟨?_, ⟨?_, (show (Lit.int .i64 0).wf = true by decide), (show (Lit.int .i64 0).wf = true by decide), ?_⟩, ?_, by omega⟩
          · show mayRec (str key) true 0 0 (str []) = true
            unfold mayRec
            rw [hk]
            simp [str, ByteArray.toList_eq]
          · show (str key).size ≤ maxLen
            unfold maxLen; omega
          · show (str []).size ≤ maxLen
            rw [str_size]; unfold maxLen; simp
          · show l = recB (bl (str key)) true 0 0 (bl (str [])) ++ _
            rw [bl_str, bl_str]
            have e1 : recB key true 0 0 [] = putT key ++ uvarint (zigzag 0) := rfl
            rw [e1, List.append_assoc, ← List.drop_drop, ← c2]
            exact c1
        · rcases hv : valB (l.drop p) with ⟨v, u, e3⟩
          have f3 := valB_fits (l.drop p)
          rw [hv] at f3
          simp only [List.length_drop] at f3
          by_cases h3 : e3 = 0
          · subst h3
            rw [readB_ok hr hk hg hx hv] at h
            simp only [Prod.mk.injEq, and_true] at h
            obtain ⟨rfl, rfl⟩ := h
            obtain ⟨vk, vn, vs⟩ := v
            obtain ⟨c2, c3, c4⟩ := valB_canon hv
            have hkb : -9223372036854775808 ≤ vk ∧ vk ≤ 9223372036854775807 := by
              rcases mayR_cases c2 with ⟨h, -⟩ | ⟨h, -⟩ <;> omega
            refine ⟨?_, ⟨?_, bounds_wf hkb.1 hkb.2, bounds_wf c3.1 c3.2, ?_⟩, ?_, by omega⟩
            · show mayRec (str key) false vk vn (str vs) = true
              unfold mayRec
              rw [hk]
              simpa using c2
            · show (str key).size ≤ maxLen
              unfold maxLen; omega
            · show (str vs).size ≤ maxLen
              rw [str_size]
              rcases mayR_cases c2 with ⟨-, h⟩ | ⟨-, -, h⟩
              · subst h; unfold maxLen; simp
              · unfold maxLen; omega
            · show l = recB (bl (str key)) false vk vn (bl (str vs)) ++ _
              rw [bl_str, bl_str]
              have e1 : recB key false vk vn vs = putT key ++ putV vk vn vs := rfl
              rw [e1, List.append_assoc, ← List.drop_drop, ← c4]
              exact c1
          · rw [readB_e4 hr hk hg hx hv h3] at h
            simp only [rdErr, Prod.mk.injEq] at h
            exact absurd h.2.2 h3
      · rw [readB_e3 hr hk hg h2] at h
        simp only [rdErr, Prod.mk.injEq] at h
        exact absurd h.2.2 h2
  · rw [readB_e1 hr he] at h
    simp only [rdErr, Prod.mk.injEq] at h
    exact absurd h.2.2 he

theorem recOk_n {x : RecT} (h : RecOk x) : -9223372036854775808 ≤ x.2.2.2.1 ∧ x.2.2.2.1 ≤ 9223372036854775807 := by
  have := bounds_i64 h.2.2.1
  omega
theorem readT_put {x : RecT} (h : mayT x = true) (hok : RecOk x) (r : List UInt8) : ∃ y, readB (recT x ++ r) = (y, (recT x).length, 0) ∧ unR y = x := by
  obtain ⟨key, gone, k, n, s⟩ := x
  obtain ⟨h0, h1⟩ := recOk_n hok
  have := readB_put (bl key) gone k n (bl s) r (by rw [str_bl, str_bl]; exact h) h0 h1
  exact ⟨_, this, by unfold unR; simp only [str_bl]⟩
theorem recT_len {x : RecT} (h : mayT x = true) (hok : RecOk x) : 2 ≤ (recT x).length ∧ (recT x).length ≤ 200 := by
  obtain ⟨key, gone, k, n, s⟩ := x
  obtain ⟨h0, h1⟩ := recOk_n hok
  exact recB_len (key := bl key) (s := bl s) (by rw [str_bl, str_bl]; exact h) h0 h1

/-! ### Rows. -/
end Go.Proofs.YthbnecdeebmlhaaGreat

namespace Go.Proofs.YthbnecdeebmlhaaGreat

def bv (b : Bool) : Nat := if b then 1 else 0
/-- The number that bits are. -/
def val (l : List Bool) : Nat := l.foldl (fun x b => 2 * x + bv b) 0
/-- Bit n of x, from the lowest. -/
def bit (x n : Nat) : Bool := x / 2 ^ n % 2 == 1
/-- The lowest n bits of x. -/
def numB (x : Nat) : Nat → List Bool
  | 0 => []
  | n + 1 => bit x n :: numB x n

theorem bv_lt (b : Bool) : bv b < 2 := by cases b <;> decide
theorem bv_bit (x n : Nat) : bv (bit x n) = x / 2 ^ n % 2 := by
  unfold bv bit
  rcases Nat.mod_two_eq_zero_or_one (x / 2 ^ n) with h | h <;> simp [h]
theorem val_foldl (l : List Bool) : ∀ x, l.foldl (fun x b => 2 * x + bv b) x = x * 2 ^ l.length + val l := by
  induction l with
  | nil => intro x; simp [val]
  | cons b l ih =>
    intro x
    unfold val
    rw [List.foldl_cons, List.foldl_cons, ih, ih, List.length_cons, Nat.pow_succ, Nat.add_mul, Nat.mul_zero, Nat.zero_add, Nat.add_assoc]
    congr 1
    rw [Nat.mul_comm 2 x, Nat.mul_assoc, Nat.mul_comm 2]
theorem val_append (a b : List Bool) : val (a ++ b) = val a * 2 ^ b.length + val b := by
  unfold val
  rw [List.foldl_append, val_foldl]
  rfl
theorem val_cons (b : Bool) (l : List Bool) : val (b :: l) = bv b * 2 ^ l.length + val l := by
  have := val_append [b] l
  simpa [val] using this
theorem val_lt (l : List Bool) : val l < 2 ^ l.length := by
  induction l with
  | nil => decide
  | cons b l ih =>
    rw [val_cons, List.length_cons, Nat.pow_succ]
    have := bv_lt b
    have : bv b * 2 ^ l.length ≤ 1 * 2 ^ l.length := Nat.mul_le_mul_right _ (by omega)
    omega
theorem numB_length (x : Nat) : ∀ n, (numB x n).length = n
  | 0 => rfl
  | n + 1 => by rw [numB, List.length_cons, numB_length x n]
theorem val_numB (x : Nat) : ∀ n, val (numB x n) = x % 2 ^ n
  | 0 => by rw [Nat.pow_zero, Nat.mod_one]; rfl
  | n + 1 => by
    rw [numB, val_cons, numB_length, val_numB x n, bv_bit, Nat.pow_succ, Nat.mod_mul]
    rw [Nat.mul_comm, Nat.add_comm]
theorem bit_mod (x n k : Nat) (h : k < n) : bit (x % 2 ^ n) k = bit x k := by
  unfold bit
  have e : 2 ^ n = 2 ^ k * 2 ^ (n - k) := by rw [← Nat.pow_add]; congr 1; omega
  rw [e, Nat.mod_mul_right_div_self]
  have e2 : 2 ^ (n - k) = 2 * 2 ^ (n - k - 1) := by rw [← Nat.pow_succ']; congr 1; omega
  rw [e2, Nat.mod_mul_right_mod]
theorem numB_mod (x n : Nat) : ∀ k, k ≤ n → numB (x % 2 ^ n) k = numB x k
  | 0, _ => rfl
  | k + 1, h => by rw [numB, numB, bit_mod x n k (by omega), numB_mod x n k (by omega)]
theorem numB_val (l : List Bool) : numB (val l) l.length = l := by
  induction l with
  | nil => rfl
  | cons b l ih =>
    have h1 := val_lt l
    have h2 : val (b :: l) % 2 ^ l.length = val l := by
      rw [val_cons, Nat.add_comm, Nat.add_mul_mod_self_right, Nat.mod_eq_of_lt h1]
    have h3 : bit (val (b :: l)) l.length = b := by
      unfold bit
      rw [val_cons, Nat.add_comm, Nat.add_mul_div_right _ _ (Nat.pow_pos (by omega)), Nat.div_eq_of_lt h1, Nat.zero_add]
      cases b <;> rfl
    rw [List.length_cons, numB, h3, ← numB_mod _ l.length l.length (Nat.le_refl _), h2, ih]
theorem numB_at (x : Nat) : ∀ n k (h : k < n), (numB x n)[k]'(by rw [numB_length]; exact h) = bit x (n - 1 - k)
  | n + 1, 0, _ => by simp [numB]
  | n + 1, k + 1, h => by
    have := numB_at x n k (by omega)
    simp only [numB, List.getElem_cons_succ, this]
    congr 1
    omega
/-- Bit k of a number of bits. -/
theorem bit_val (l : List Bool) (k : Nat) (h : k < l.length) : bit (val l) (l.length - 1 - k) = l[k] := by
  have := numB_at (val l) l.length k h
  rw [← this]
  exact List.getElem_of_eq (numB_val l) _

/-- Eight bits from one on, noughts behind. -/
def eight (l : List Bool) (k : Nat) : List Bool := (List.range 8).map fun j => l.getD (8 * k + j) false
/-- Eight bits a byte, the first one highest, the last byte filled with noughts. -/
def pack (l : List Bool) : List UInt8 := (List.range ((l.length + 7) / 8)).map fun k => UInt8.ofNat (val (eight l k))
/-- Bit i of bytes. -/
def bitAt (p : List UInt8) (i : Nat) : Bool := bit (p.getD (i / 8) 0).toNat (7 - i % 8)
/-- All bits of bytes. -/
def unpack (p : List UInt8) : List Bool := (List.range (8 * p.length)).map fun i => bitAt p i

theorem eight_length (l : List Bool) (k : Nat) : (eight l k).length = 8 := by simp [eight]
theorem eight_lt (l : List Bool) (k : Nat) : val (eight l k) < 256 := by
  have := val_lt (eight l k)
  rw [eight_length] at this
  exact this
theorem ofNat_val (n : Nat) (h : n < 256) : (UInt8.ofNat n).toNat = n := by simp; omega
theorem pack_length (l : List Bool) : (pack l).length = (l.length + 7) / 8 := by simp [pack]
theorem pack_at (l : List Bool) (k : Nat) (h : k < (l.length + 7) / 8) : (pack l).getD k 0 = UInt8.ofNat (val (eight l k)) := by
  simp [pack, List.getD_eq_getElem?_getD, h]
theorem bitAt_pack (l : List Bool) (i : Nat) : bitAt (pack l) i = l.getD i false := by
  unfold bitAt
  rcases Nat.lt_or_ge (i / 8) ((l.length + 7) / 8) with h | h
  · rw [pack_at l _ h, ofNat_val _ (eight_lt l _)]
    have h7 : 7 - i % 8 = (eight l (i / 8)).length - 1 - i % 8 := by rw [eight_length]
    rw [h7, bit_val (eight l (i / 8)) (i % 8) (by rw [eight_length]; omega)]
    simp only [eight, List.getElem_map, List.getElem_range]
    rw [show 8 * (i / 8) + i % 8 = i from by omega]
  · have h1 : (pack l).getD (i / 8) 0 = 0 := by
      rw [List.getD_eq_getElem?_getD, List.getElem?_eq_none (by rw [pack_length]; exact h)]
      rfl
    rw [h1, List.getD_eq_getElem?_getD, List.getElem?_eq_none (by omega)]
    show bit 0 _ = false
    simp [bit]
/-- A byte is its eight bits. -/
theorem byte_eq8 {a b : UInt8} (h : ∀ j, j < 8 → bit a.toNat j = bit b.toNat j) : a = b := by
  have ha : a.toNat < 2 ^ 8 := a.toNat_lt
  have hb : b.toNat < 2 ^ 8 := b.toNat_lt
  have e : ∀ n, n ≤ 8 → numB a.toNat n = numB b.toNat n := by
    intro n
    induction n with
    | zero => intro _; rfl
    | succ n ih => intro hn; rw [numB, numB, h n (by omega), ih (by omega)]
  have h8 := congrArg val (e 8 (Nat.le_refl _))
  rw [val_numB, val_numB, Nat.mod_eq_of_lt ha, Nat.mod_eq_of_lt hb] at h8
  exact UInt8.toNat_inj.1 h8
theorem bytes_ext {p q : List UInt8} (hl : p.length = q.length) (h : ∀ i, i < 8 * p.length → bitAt p i = bitAt q i) : p = q := by
  refine List.ext_getElem hl fun k h1 h2 => byte_eq8 fun j hj => ?_
  have := h (8 * k + (7 - j)) (by omega)
  unfold bitAt at this
  rw [show (8 * k + (7 - j)) / 8 = k from by omega, show 7 - (8 * k + (7 - j)) % 8 = j from by omega] at this
  simpa [List.getD_eq_getElem?_getD, h1, h2] using this
/-- Bytes are the bytes of their first n bits just if they are as many, and noughts stand behind. -/
theorem pack_first (p : List UInt8) (n : Nat) : pack ((unpack p).take n) = p ↔ (n ≥ 8 * p.length ∨ (8 * p.length < n + 8 ∧ ∀ i, n ≤ i → i < 8 * p.length → bitAt p i = false)) := by
  have hu : (unpack p).length = 8 * p.length := by simp [unpack]
  have hut : ∀ i, ((unpack p).take n).getD i false = if i < n ∧ i < 8 * p.length then bitAt p i else false := by
    intro i
    rw [List.getD_eq_getElem?_getD, List.getElem?_take]
    by_cases h1 : i < n
    · by_cases h2 : i < 8 * p.length
      · simp [h1, h2, unpack]
      · simp [h1, h2, unpack]
    · simp [h1]
  have hlen : ((unpack p).take n).length = min n (8 * p.length) := by rw [List.length_take, hu]
  constructor
  · intro h
    rcases Nat.lt_or_ge n (8 * p.length) with hlt | hge
    · refine .inr ⟨?_, fun i h1 h2 => ?_⟩
      · have := congrArg List.length h
        rw [pack_length, hlen, Nat.min_eq_left (by omega)] at this
        omega
      · have := bitAt_pack ((unpack p).take n) i
        rw [h, hut, if_neg (by omega)] at this
        exact this
    · exact .inl hge
  · intro h
    refine bytes_ext ?_ fun i hi => ?_
    · rw [pack_length, hlen]
      rcases h with h | ⟨h, -⟩ <;> omega
    · rw [bitAt_pack, hut]
      rw [pack_length, hlen] at hi
      split
      · rfl
      · rename_i hn
        rcases h with h | ⟨h1, h2⟩
        · unfold bitAt
          rw [List.getD_eq_getElem?_getD, List.getElem?_eq_none (by omega)]
          show false = bit 0 _
          simp [bit]
        · rcases Nat.lt_or_ge i (8 * p.length) with hlt | hge
          · exact (h2 i (by omega) hlt).symm
          · unfold bitAt
            rw [List.getD_eq_getElem?_getD, List.getElem?_eq_none (by omega)]
            show false = bit 0 _
            simp [bit]
theorem eight_at (l : List Bool) (k j : Nat) (h : j < 8) : (eight l k)[j]'(by rw [eight_length]; exact h) = l.getD (8 * k + j) false := by simp [eight]
end Go.Proofs.YthbnecdeebmlhaaGreat

namespace Go.Proofs.YthbnecdeebmlhaaGreat

theorem bit_test (x n : Nat) : bit x n = x.testBit n := by
  unfold bit
  rw [Nat.testBit_eq_decide_div_mod_eq]
  by_cases h : x / 2 ^ n % 2 = 1 <;> simp [h]
theorem numB_split (x b : Nat) : ∀ a, numB x (a + b) = numB (x / 2 ^ b) a ++ numB x b
  | 0 => by rw [Nat.zero_add]; rfl
  | a + 1 => by
    rw [show a + 1 + b = (a + b) + 1 from by omega, numB, numB, List.cons_append, ← numB_split x b a]
    congr 1
    unfold bit
    rw [Nat.div_div_eq_div_mul, ← Nat.pow_add, Nat.add_comm b a]
theorem numB_take (x n t : Nat) (h : t ≤ n) : (numB x n) = numB (x / 2 ^ (n - t)) t ++ numB x (n - t) := by
  have := numB_split x (n - t) t
  rwa [show t + (n - t) = n from by omega] at this
theorem val_drop (m : List Bool) (p : Nat) : val (m.drop p) = val m % 2 ^ (m.length - p) := by
  have h1 := val_append (m.take p) (m.drop p)
  rw [List.take_append_drop, List.length_drop] at h1
  have h2 := val_lt (m.drop p)
  rw [List.length_drop] at h2
  rw [h1, Nat.add_comm, Nat.add_mul_mod_self_right, Nat.mod_eq_of_lt h2]
theorem val_take (m : List Bool) (t : Nat) : val (m.take t) = val m / 2 ^ (m.length - t) := by
  have h1 := val_append (m.take t) (m.drop t)
  rw [List.take_append_drop, List.length_drop] at h1
  have h2 := val_lt (m.drop t)
  rw [List.length_drop] at h2
  rw [h1, Nat.add_comm, Nat.add_mul_div_right _ _ (Nat.pow_pos (by omega)), Nat.div_eq_of_lt h2, Nat.zero_add]
/-- A piece out of eight bits. -/
theorem val_piece (m : List Bool) (p t : Nat) (h8 : m.length = 8) (h : p + t ≤ 8) : val ((m.drop p).take t) = val m * 2 ^ p % 256 / 2 ^ (8 - t) := by
  rw [val_take, val_drop, List.length_drop, h8]
  have e : 256 = 2 ^ (8 - p) * 2 ^ p := by rw [← Nat.pow_add, show 8 - p + p = 8 from by omega]
  rw [e, Nat.mul_mod_mul_right, show 8 - t = p + (8 - p - t) from by omega, Nat.pow_add, ← Nat.div_div_eq_div_mul, Nat.mul_div_cancel _ (Nat.pow_pos (by omega))]
theorem pack_getElem (l : List Bool) (k : Nat) (h : k < (pack l).length) : (pack l)[k] = UInt8.ofNat (val (eight l k)) := by simp [pack]
/-- t bits from one on, all in one byte. -/
theorem pack_piece (l : List Bool) (at_ t : Nat) (h : at_ % 8 + t ≤ 8) (h2 : at_ + t ≤ l.length) (ht : 0 < t) (hk : at_ / 8 < (pack l).length) :
    (pack l)[at_ / 8].toNat * 2 ^ (at_ % 8) % 256 / 2 ^ (8 - t) = val ((l.drop at_).take t) := by
  rw [pack_getElem, ofNat_val _ (eight_lt l _), ← val_piece _ _ _ (eight_length l _) h]
  congr 1
  refine List.ext_getElem (by simp only [List.length_take, List.length_drop, eight_length]; omega) fun j h3 h4 => ?_
  simp only [List.length_take, List.length_drop, eight_length] at h3 h4
  rw [List.getElem_take, List.getElem_take, List.getElem_drop, List.getElem_drop, eight_at _ _ _ (by omega), List.getD_eq_getElem?_getD, List.getElem?_eq_getElem (by omega)]
  simp only [Option.getD_some]
  congr 1
  omega
theorem take_more (l : List Bool) (i j t : Nat) : ((l.drop i).take j) ++ ((l.drop (i + j)).take t) = (l.drop i).take (j + t) := by
  rw [List.take_add, List.drop_drop]
/-- Put behind what has been gathered. -/
theorem or_val (x p t : Nat) (h : p < 2 ^ t) : x * 2 ^ t ||| p = x * 2 ^ t + p := by
  have := Nat.shiftLeft_add_eq_or_of_lt h x
  rw [Nat.shiftLeft_eq] at this
  exact this.symm

/-- Bytes with room for one bit more. -/
def room (l : List Bool) : List UInt8 := if l.length % 8 = 0 then pack l ++ [0] else pack l
theorem room_length (l : List Bool) : (room l).length = l.length / 8 + 1 := by
  unfold room
  split
  · rw [List.length_append, pack_length, List.length_singleton]; omega
  · rw [pack_length]; omega
theorem bitAt_room (l : List Bool) (i : Nat) : bitAt (room l) i = l.getD i false := by
  unfold room
  split
  · rename_i h
    rw [← bitAt_pack]
    unfold bitAt
    rcases Nat.lt_or_ge (i / 8) (pack l).length with h1 | h1
    · rw [List.getD_eq_getElem?_getD, List.getD_eq_getElem?_getD, List.getElem?_append_left h1]
    · rw [List.getD_eq_getElem?_getD, List.getD_eq_getElem?_getD, List.getElem?_append_right h1, List.getElem?_eq_none h1]
      rcases Nat.eq_zero_or_pos (i / 8 - (pack l).length) with h2 | h2
      · rw [h2]; rfl
      · rw [List.getElem?_eq_none (by simp only [List.length_singleton]; omega)]
  · exact bitAt_pack l i
/-- The byte that a piece is put into. -/
def putByte (o c t u : Nat) : Nat := o ||| c * 2 ^ (8 - t) / 2 ^ u
theorem putByte_lt (o c t u : Nat) (ho : o < 256) (hc : c < 2 ^ t) (ht : t ≤ 8) : putByte o c t u < 256 := by
  unfold putByte
  have h1 : c * 2 ^ (8 - t) < 2 ^ 8 := by
    have : 2 ^ 8 = 2 ^ t * 2 ^ (8 - t) := by rw [← Nat.pow_add]; congr 1; omega
    rw [this]
    exact Nat.mul_lt_mul_of_pos_right hc (Nat.pow_pos (by omega))
  have h2 := Nat.div_le_self (c * 2 ^ (8 - t)) (2 ^ u)
  exact Nat.or_lt_two_pow (n := 8) (by omega) (by omega)
/-- A piece behind the last bit. -/
theorem pack_more (l c : List Bool) (h : l.length % 8 + c.length ≤ 8) (hc : 0 < c.length) :
    pack (l ++ c) = (room l).set (l.length / 8) (UInt8.ofNat (putByte ((room l).getD (l.length / 8) 0).toNat (val c) c.length (l.length % 8))) := by
  have hv := val_lt c
  refine bytes_ext (by rw [List.length_set, room_length, pack_length, List.length_append]; omega) fun i hi => ?_
  rw [pack_length, List.length_append] at hi
  rw [bitAt_pack]
  by_cases hk : i / 8 = l.length / 8
  · have e1 : ((room l).set (l.length / 8) (UInt8.ofNat (putByte ((room l).getD (l.length / 8) 0).toNat (val c) c.length (l.length % 8)))).getD (i / 8) 0 = UInt8.ofNat (putByte ((room l).getD (l.length / 8) 0).toNat (val c) c.length (l.length % 8)) := by
      rw [hk, List.getD_eq_getElem?_getD, List.getElem?_set_self (by rw [room_length]; omega), Option.getD_some]
    have e2 := bitAt_room l i
    unfold bitAt at e2 ⊢
    rw [e1, ofNat_val _ (putByte_lt _ _ _ _ (UInt8.toNat_lt _) hv (by omega))]
    unfold putByte
    rw [bit_test, Nat.testBit_or, ← hk, ← bit_test, e2, Nat.testBit_div_two_pow, Nat.testBit_mul_two_pow]
    rcases Nat.lt_or_ge i l.length with hlt | hge
    · rw [List.getD_eq_getElem?_getD, List.getD_eq_getElem?_getD, List.getElem?_append_left hlt]
      have hz : (decide (8 - c.length ≤ 7 - i % 8 + l.length % 8) && (val c).testBit (7 - i % 8 + l.length % 8 - (8 - c.length))) = false := by
        have : val c < 2 ^ (7 - i % 8 + l.length % 8 - (8 - c.length)) := Nat.lt_of_lt_of_le hv (Nat.pow_le_pow_right (by omega) (by omega))
        rw [Nat.testBit_lt_two_pow this, Bool.and_false]
      rw [hz, Bool.or_false]
    · rw [List.getD_eq_getElem?_getD, List.getD_eq_getElem?_getD, List.getElem?_eq_none hge, List.getElem?_append_right hge, Option.getD_none, Bool.false_or]
      rcases Nat.lt_or_ge (i - l.length) c.length with h1 | h1
      · have hb := bit_val c (i - l.length) h1
        rw [List.getElem?_eq_getElem h1, Option.getD_some, ← hb, bit_test, show 7 - i % 8 + l.length % 8 - (8 - c.length) = c.length - 1 - (i - l.length) from by omega, decide_eq_true (by omega), Bool.true_and]
      · rw [List.getElem?_eq_none h1, Option.getD_none]
        have : ¬ (8 - c.length ≤ 7 - i % 8 + l.length % 8) := by omega
        rw [decide_eq_false this, Bool.false_and]
  · have e1 : ((room l).set (l.length / 8) (UInt8.ofNat (putByte ((room l).getD (l.length / 8) 0).toNat (val c) c.length (l.length % 8)))).getD (i / 8) 0 = (room l).getD (i / 8) 0 := by
      rw [List.getD_eq_getElem?_getD, List.getElem?_set_ne (by omega), ← List.getD_eq_getElem?_getD]
    have e2 := bitAt_room l i
    unfold bitAt at e2 ⊢
    rw [e1, e2, List.getD_eq_getElem?_getD, List.getD_eq_getElem?_getD, List.getElem?_append_left (by omega)]

end Go.Proofs.YthbnecdeebmlhaaGreat

namespace Go.Proofs.YthbnecdeebmlhaaGreat
open Go.RowKit

/-- Of the blocks that there were all but b and r are as they were. -/
structure Two (b : Nat) (r : Option Nat) (w w' : World) : Prop where
  os : w'.os = w.os
  tape : w'.tape = w.tape
  output : w'.output = w.output
  size : w.heap.size ≤ w'.heap.size
  block : ∀ k, k < w.heap.size → k ≠ b → some k ≠ r → w'.heap[k]? = w.heap[k]?

theorem Two.refl (b : Nat) (r : Option Nat) (w : World) : Two b r w w := ⟨rfl, rfl, rfl, Nat.le_refl _, fun _ _ _ _ => rfl⟩
/-- The second row is the first one, or new. -/
theorem Two.trans {b : Nat} {r r' : Option Nat} {w w1 w2 : World} (h : Two b r w w1) (k : Two b r' w1 w2) (hr : ∀ j, r' = some j → r = some j ∨ w.heap.size ≤ j) : Two b r w w2 :=
  ⟨k.os.trans h.os, k.tape.trans h.tape, k.output.trans h.output, Nat.le_trans h.size k.size, fun i hi hb hn => (k.block i (Nat.lt_of_lt_of_le hi h.size) hb (fun e => by
    rcases hr i e.symm with h' | h'
    · exact hn h'.symm
    · omega)).trans (h.block i hi hb hn)⟩
theorem Two.of_grown {b : Nat} {r : Option Nat} {w w' : World} (h : w.grownBy w' r) : Two b r w w' := ⟨h.os, h.tape, h.output, h.size, fun k hk _ hr => h.block k hk hr⟩
theorem Two.of_below {b : Nat} {r : Option Nat} {w w' : World} (h : Below w.heap.size w w') : Two b r w w' := ⟨h.os, h.tape, h.output, h.size, fun k hk _ _ => h.block k hk⟩
theorem Two.below {b : Nat} {r : Option Nat} {w w' : World} {B : Nat} (h : Two b r w w') (hb : B ≤ b) (hr : ∀ k, r = some k → B ≤ k) (hB : B ≤ w.heap.size) : Below B w w' :=
  ⟨h.os, h.tape, h.output, h.size, fun k hk => h.block k (by omega) (by omega) (fun e => by have := hr k e.symm; omega)⟩
theorem Two.set {b : Nat} {r : Option Nat} {w w' : World} (h : Two b r w w') {p : Addr} (hp : p.block = b ∨ some p.block = r ∨ w.heap.size ≤ p.block) (u : Value) : Two b r w (w'.setCell p u) :=
  ⟨h.os, h.tape, h.output, by simpa [World.setCell] using h.size, fun k hk hb hr => (Below.heap_setCell _ _ _ _ (by rintro rfl; rcases hp with hp | hp | hp <;> first | exact hb hp | exact hr hp | omega)).trans (h.block k hk hb hr)⟩

theorem heap_set {w : World} {b : Nat} {cs : Array Value} {t : TypeId} {fr : Nat × Nat} (h : w.heap[b]? = some (.cells cs t fr)) (o : Nat) (u : Value) : (w.setCell ⟨b, o, none⟩ u).heap[b]? = some (.cells (cs.setIfInBounds o u) t fr) := by
  simp [World.setCell, Array.getElem?_modify, h]

/-- b, a *bits.Bits whose row is v, holds the bytes p and says n bits; all of it lies from block B on. -/
structure BB (w : World) (B b : Nat) (v : Value) (p : List UInt8) (n : Nat) : Prop where
  blk : w.heap[b]? = some (.cells #[v, .int .i64 (n : Int)] 80)
  row : Own 5 w B v p
  low : B ≤ b
/-- It holds the bits l. -/
abbrev BT (w : World) (B b : Nat) (v : Value) (l : List Bool) : Prop := BB w B b v (pack l) l.length

theorem own_not {e t : TypeId} {w : World} {B b : Nat} {v : Value} {l : List UInt8} {cs : Array Value} (h : Own e w B v l) (hb : w.heap[b]? = some (.cells cs t)) (hne : e ≠ t) : v.ownBlock ≠ some b := by
  intro hv
  rcases h.2 with ⟨rfl, -⟩ | ⟨g, cap, cur, rfl, -, hg, -⟩
  · cases hv
  · simp only [Value.ownBlock, Option.some.injEq] at hv
    subst hv
    rw [hb] at hg
    simp only [Option.some.injEq, Obj.cells.injEq] at hg
    exact hne hg.2.1.symm
section
variable {w : World} {B b : Nat} {v : Value} {p : List UInt8} {n : Nat}
theorem BB.lt (h : BB w B b v p n) : b < w.heap.size := (Array.getElem?_eq_some_iff.1 h.blk).1
theorem BB.apart (h : BB w B b v p n) : v.ownBlock ≠ some b := own_not h.row h.blk (by decide)
theorem BB.below {w' : World} (h : BB w B b v p n) (hb : Below w.heap.size w w') : BB w' B b v p n := ⟨(hb.block b h.lt).trans h.blk, h.row.below hb, h.low⟩
theorem BB.mono {B' : Nat} (h : BB w B b v p n) (hB : B' ≤ B) : BB w B' b v p n := ⟨h.blk, h.row.mono hB, Nat.le_trans hB h.low⟩
theorem BB.rows (h : BB w B b v p n) : ∀ k, v.ownBlock = some k → B ≤ k := h.row.row
theorem BB.c0 (h : BB w B b v p n) : w.cell? ⟨b, 0, none⟩ = some v := by rw [cell_of_row w b 0 _ _ _ h.blk]; rfl
theorem BB.c1 (h : BB w B b v p n) : w.cell? ⟨b, 1, none⟩ = some (.int .i64 (n : Int)) := by rw [cell_of_row w b 1 _ _ _ h.blk]; rfl
theorem BB.f (h : BB w B b v p n) (o : Nat) : w.frozen? ⟨b, o, none⟩ = false := frozen_of_row w b o _ _ h.blk
/-- A row that has grown is stored. -/
theorem BB.grown {w' : World} {v' : Value} {q : List UInt8} (h : BB w B b v p n) (hg : w.grownBy w' v.ownBlock) (ho : Own 5 w' B v' q) : BB (w'.setCell ⟨b, 0, none⟩ v') B b v' q n := by
  have h1 : w'.heap[b]? = some (.cells #[v, .int .i64 (n : Int)] 80) := (hg.block b h.lt h.apart.symm).trans h.blk
  refine ⟨by rw [heap_set h1]; rfl, ?_, h.low⟩
  have hno := own_not ho h1 (by decide)
  refine ⟨ho.1, ?_⟩
  rcases ho.2 with h' | ⟨g, cap, cur, e1, hB, e2, e3⟩
  · exact .inl h'
  · refine .inr ⟨g, cap, cur, e1, hB, (Below.heap_setCell _ _ _ _ ?_).trans e2, e3⟩
    rintro rfl
    subst e1
    exact hno rfl
/-- A byte is stored. -/
theorem BB.put {g m cap : Nat} (h : BB w B b (.slice (some ⟨g, 0, none⟩) m cap) p n) (j : Nat) (c : UInt8) (x : Int) (hx : x = (c.toNat : Int)) : BB (w.setCell ⟨g, j, none⟩ (.int .u8 x)) B b (.slice (some ⟨g, 0, none⟩) m cap) (p.set j c) n := by
  refine ⟨(Below.heap_setCell _ _ _ _ ?_).trans h.blk, h.row.store j c x hx, h.low⟩
  rintro rfl
  exact h.apart rfl
/-- The number of bits is stored. -/
theorem BB.count (h : BB w B b v p n) (n' : Nat) (x : Int) (hx : x = (n' : Int)) : BB (w.setCell ⟨b, 1, none⟩ (.int .i64 x)) B b v p n' := by
  subst hx
  refine ⟨by rw [heap_set h.blk]; rfl, ?_, h.low⟩
  have hno := h.apart
  refine ⟨h.row.1, ?_⟩
  rcases h.row.2 with h' | ⟨g, cap, cur, e1, hB, e2, e3⟩
  · exact .inl h'
  · refine .inr ⟨g, cap, cur, e1, hB, (Below.heap_setCell _ _ _ _ ?_).trans e2, e3⟩
    rintro rfl
    subst e1
    exact hno rfl
end
/-- A new one has none. -/
theorem BT.new (w : World) : BT (w.alloc (.cells #[.slice none 0 0, .int .i64 0] 80)) w.heap.size w.heap.size (.slice none 0 0) [] :=
  ⟨heap_alloc_new w _, Own.nil _ _ _, Nat.le_refl _⟩

end Go.Proofs.YthbnecdeebmlhaaGreat

namespace Go.Proofs.YthbnecdeebmlhaaGreat
open Go.RowKit

section
variable {P : Program} (w : World)

theorem run_append_where (base : Nat) (t ty e : TypeId) (i : TypeInfo) (z : Value) (size bytes : Nat) (ht : P.underlying t = some (.slice e)) (hi : P.info? e = some i) (hz : i.zero = some z)
    (hsize : i.size = size) (hby : i.bytes = bytes) (hzs : z.cells.size = size) (hsz : 0 < size)
    (v : Value) (n : Nat) (xs : List Value) (hown : w.ownsRow base e size v n xs)
    (a : Addr) (m c : Nat) (news : List Value) (hl : news.length = m * size) (hnews : ∀ j u, news[j]? = some u → w.cell? (a.add j) = some u) (h1 : ∀ u ∈ news, u.oneCell' = true)
    (h63 : n + m ≤ maxLen) (hbytes : (n + m) * bytes ≤ 140737488355328) (hbase : base ≤ w.heap.size) :
    ∃ v' w', (Builtin.append_ #[t, t] ty #[v, .slice (some a) m c]).run P w = .ok v' w' ∧ w'.ownsRow base e size v' (n + m) (xs ++ news) ∧ w.grownBy w' v.ownBlock ∧
      (v'.ownBlock = v.ownBlock ∨ ∀ k, v'.ownBlock = some k → w.heap.size ≤ k) := by
  obtain ⟨v', w', hr, h2, h3, -⟩ := run_append_own (P := P) w base t ty e i z size bytes ht hi hz hsize hby hzs hsz v n xs hown a m c news hl hnews h1 h63 hbytes hbase
  refine ⟨v', w', hr, h2, h3, ?_⟩
  rcases hown.2 with ⟨rfl, rfl⟩ | ⟨g, cap, cur, rfl, hbg, hg, hnc, hcm, hcs, htake⟩
  · right
    obtain ⟨v2, w2, hr2, k2, -, -⟩ := run_append_own (P := P) w w.heap.size t ty e i z size bytes ht hi hz hsize hby hzs hsz (.slice none 0 0) 0 xs ⟨hown.1, .inl ⟨rfl, rfl⟩⟩ a m c news hl hnews h1 h63 hbytes (Nat.le_refl _)
    rw [hr] at hr2
    cases hr2
    exact fun k hk => (World.ownsRow.lt k2 k hk).1
  · by_cases hroom : n + m ≤ cap
    · left
      obtain ⟨w2, hr2, -, -⟩ := run_append_fits (P := P) w base t ty e i size ht hi hsize g n cap xs hown a m c news hl hnews h1 hroom
      rw [hr] at hr2
      cases hr2
      rfl
    · right
      have hsmall : n + m ≤ 9223372036854775807 := by simp only [maxLen] at h63; omega
      have holds : ∀ j u, xs[j]? = some u → w.cell? ((⟨g, 0, none⟩ : Addr).add j) = some u := hown.cells (g := g) rfl
      subst hsize hby
      have hr2 := run_append_grow (P := P) w t ty e i z ht hi hz ⟨g, 0, none⟩ n cap xs hown.1 holds a m c news hl hnews (by omega) (by omega) (growslice_fits (by omega) hbytes)
      rw [hr] at hr2
      cases hr2
      intro k hk
      simp only [Value.ownBlock, Option.some.injEq] at hk
      omega

theorem wpList_append_where {ops : Array Oper} {rest : List Oper} {o : Oper} {a : Act} {Q : Exit → Act → World → Prop} (hgd : o.guard = none) (s x : Operand) (t : TypeId)
    (ho : o.op = .call { callee := .builtin .append, args := #[s, x], argTypes := #[t, t] })
    (base : Nat) (e : TypeId) (ht : P.underlying t = some (.slice e)) (z : Value) (size bytes : Nat) (hinfo : (P.info? e).map (fun i => (i.zero, i.size, i.bytes)) = some (some z, size, bytes)) (hzs : z.cells.size = size) (hsz : 0 < size)
    (v : Value) (n : Nat) (xs : List Value) (hs : a.eval s = v) (hown : w.ownsRow base e size v n xs)
    (ad : Addr) (m c : Nat) (news : List Value) (hx : a.eval x = .slice (some ad) m c) (hl : news.length = m * size) (hnews : ∀ j u, news[j]? = some u → w.cell? (ad.add j) = some u) (h1 : ∀ u ∈ news, u.oneCell' = true)
    (h63 : n + m ≤ maxLen) (hbytes : (n + m) * bytes ≤ 140737488355328) (hbase : base ≤ w.heap.size)
    (h : ∀ v' w', w'.ownsRow base e size v' (n + m) (xs ++ news) → w.grownBy w' v.ownBlock → (v'.ownBlock = v.ownBlock ∨ ∀ k, v'.ownBlock = some k → w.heap.size ≤ k) → wpList P ops Q rest (a.put o.dst v') w') : wpList P ops Q (o :: rest) a w := by
  obtain ⟨i, hi, hz, hsize, hby⟩ := info_parts hinfo
  obtain ⟨v', w', hr, h2, h3, h4⟩ := run_append_where (P := P) w base t o.type e i z size bytes ht hi hz hsize hby hzs hsz v n xs hown ad m c news hl hnews h1 h63 hbytes hbase
  refine wpList_gives hgd v' w' ?_ (h v' w' h2 h3 h4)
  unfold execOp
  simp only [ho, resolve, invoke, builtin, Sem.run_bind, Sem.run_pure, Result.andThen_ok, List.map_toArray, List.map_cons, List.map_nil, hs, hx, hr]

/-- One byte more. -/
theorem wpList_append_byte {ops : Array Oper} {rest : List Oper} {o : Oper} {a : Act} {Q : Exit → Act → World → Prop} (hgd : o.guard = none) (s x : Operand) (t : TypeId)
    (ho : o.op = .call { callee := .builtin .append, args := #[s, x], argTypes := #[t, t] })
    (B : Nat) (e : TypeId) (ht : P.underlying t = some (.slice e)) (hinfo : (P.info? e).map (fun i => (i.zero, i.size, i.bytes)) = some (some (.int .u8 0), 1, 1))
    (v : Value) (l : List UInt8) (g cap : Nat) (y : UInt8) (hs : a.eval s = v) (hx : a.eval x = .slice (some ⟨g, 0, none⟩) 1 cap) (hown : Own e w B v l) (hy : w.cell? ⟨g, 0, none⟩ = some (.int .u8 (y.toNat : Int)))
    (hlen : l.length < 140737488355328) (hbase : B ≤ w.heap.size)
    (h : ∀ v' w', Own e w' B v' (l ++ [y]) → w.grownBy w' v.ownBlock → (v'.ownBlock = v.ownBlock ∨ ∀ k, v'.ownBlock = some k → w.heap.size ≤ k) → wpList P ops Q rest (a.put o.dst v') w') : wpList P ops Q (o :: rest) a w := by
  refine wpList_append_where w hgd s x t ho B e ht (.int .u8 0) 1 1 hinfo rfl (by decide) v l.length (cells l) hs hown ⟨g, 0, none⟩ 1 cap [.int .u8 (y.toNat : Int)] hx rfl ?_ ?_ (by unfold maxLen; omega) (by omega) hbase ?_
  · intro j u hj
    match j, hj with
    | 0, hj => rw [show (⟨g, 0, none⟩ : Addr).add 0 = ⟨g, 0, none⟩ from rfl, hy]; exact hj
    | j + 1, hj => simp at hj
  · intro u hu
    simp only [List.mem_cons, List.not_mem_nil, or_false] at hu
    subst hu
    rfl
  · intro v' w' h2 h3 h4
    refine h v' w' ?_ h3 h4
    unfold Own
    rw [List.length_append, cells_append]
    exact h2
end

end Go.Proofs.YthbnecdeebmlhaaGreat
