/-
  Stage 19: order.List.
  Stage 19: order.mayLie, twice.
  Stage 19: order.twice, May.
  Numbers and texts as bytes (of no code): what is read is written so.
  Records as bytes: what stands at the beginning of bytes.
  Rows of records as bytes (of no code): which rows may be, their bytes, how those are read; what is read is written so.
  A *bits.Bits in memory: what it holds; worlds in which two blocks may have changed. Plain facts.
  'append' to what the call itself owns, with one thing more than the library's law says: the row is the one it was, or a new one.
  The contracts of bits: PutNum.
  The contracts of bits: Put, Len, Num.
  The contract of bits: At.
  The contracts of bits: Bytes; bytes.Clone.
-/
import Derived.Test.YthbnecdeebmlhaaGreatM05
import Derived.Test.YthbnecdeebmlhaaGreatM06
import Derived.Deep.DeepCutAuto
import Derived.LoopTactic
import Derived.Test.YthbnecdeebmlhaaGreatM04
import Derived.BigQuiet
import Derived.Test.YthbnecdeebmlhaaGreatM02
import Derived.Test.YthbnecdeebmlhaaGreatM03
import Derived.Test.YthbnecdeebmlhaaGreatM01
import Derived.Laws.BitsAllLaws
import Derived.Deep.QuietTactic
import Derived.Lib.SliceRun
namespace Go.Proofs.YthbnecdeebmlhaaGreat
open Go.RowKit

/-- What a walk over a table's rows asks, at letters. -/
structure TabV (TT : TabT) (TL : List Value) (RL : Nat → Array Value) (Z : Array Value) : Prop where
  size : (Tryz.prog.info? 43).map (·.size) = some TL.length
  row : ∀ b : Nat, b < 8 → ∀ W, (Instr.index 43 (.agg TL.toArray) (.int .i64 (b : Int))).run Tryz.prog W = .ok (.agg (RL b)) W
  slot : ∀ b s : Nat, s < 4 → ∀ W, (Instr.index 41 (.agg (RL b)) (.int .i64 (s : Int))).run Tryz.prog W = .ok (.agg (enc6 (TT (4 * b + s))).toArray) W
  rsize : ∀ b, (Tryz.prog.info? 41).map (·.size) = some (RL b).size
  zsize : ∀ b, Z.size = (RL b).size
  rone : ∀ b, (RL b).all (fun x => x.oneCell') = true
  zero : ∀ W, (zeroValue 41).run Tryz.prog W = .ok (.agg Z) W
set_option maxRecDepth 100000 in
theorem tabV (TT : TabT) : TabV TT (tabL TT 32) (fun b => (rowL TT b).toArray) (rowL (fun _ => (false, nullR)) 0).toArray :=
  ⟨sizeTabO TT, fun b hb W => index_row TT b hb W, fun b s hs W => index_slot TT b s hs W, fun b => sizeRow4 TT b, fun b => by rw [List.size_toArray, List.size_toArray, rowL_len, rowL_len], fun b => rowL_one TT b, zero_row4⟩

theorem slot6 (y : Bool × RecT) : (enc6 y).toArray = #[.bool y.1, .string y.2.1, .bool y.2.2.1, .int .i64 y.2.2.2.1, .int .i64 y.2.2.2.2.1, .string y.2.2.2.2.2] := rfl

set_option maxHeartbeats 4000000 in
set_option maxRecDepth 100000 in
theorem olist_c (TT : TabT) (w : World) (hs : ∀ q, q < 32 → (TT q).2.1.size ≤ 1000 ∧ (TT q).2.2.2.2.2.size ≤ 1000) :
    Calls Tryz.prog 54 #[.agg (tabL TT 32).toArray] w fun e w' => ∃ v' l', e = .returned v' ∧ l'.Perm (recsT TT 32) ∧ RiseL l' ∧ OwnRec w' w.heap.size v' l' ∧ Below w.heap.size w w' := by
  have HRG := Go.Lib.hid (TO.new w TT).range
  have HB := Go.Lib.hid (below_one w (.cells (tabL TT 32).toArray 43))
  have HS := Go.Lib.hid hs
  have HV := Go.Lib.hid (tabV TT)
  clear hs
  generalize tabL TT 32 = TL at *
  generalize (fun b => (rowL TT b).toArray) = RL at *
  generalize (rowL (fun _ => (false, nullR)) 0).toArray = Z at *
  obtain ⟨g, hg⟩ : ∃ g, g = w.heap.size := ⟨_, rfl⟩
  have HG := Go.Lib.hid hg
  rw [← hg] at HRG HB ⊢
  clear hg
  have hz := HV.out.zero
  go_enter Tryz.func54, Tryz.ntmps54
  go_upto_region 2 with (fail)
  rw [← HG.out]
  generalize w.alloc (.cells TL.toArray 43) = w1 at *
  go_wp2_with (first
    | (with_reducible show wpList _ _ _ (⟨some 8, _, _, _, _, _⟩ :: _) _ _; go_loud (refine wpList_load_mid rfl 43 (.tmp 1) rfl g 0 rfl TL _ HRG.out Tryz.underlying43 rfl HV.out.size ?_))
    | fail)
  go_loopw [3, 9] (fun lv bv wr => ∃ (b : Nat) (u : Value), u = lv ∧ b ≤ 8 ∧ bv = .int .i64 (b : Int) ∧ Hid (OwnRec wr g u (recsT TT (4 * b))) ∧ Hid (Below g w wr)) (fun _ bv _ => 8 - (intOf bv).toNat)
  case atStart => exact ⟨0, _, rfl, by omega, rfl, Go.Lib.hid (OwnRec.nil _ _), HB⟩
  case round =>
    obtain ⟨b, u, rfl, hb, rfl, HO, HB⟩ := hrel
    by_cases hlt : b < 8
    · have hltI : (b : Int) < 8 := by omega
      have hix := HV.out.row b hlt
      have hgw : g ≤ wr.heap.size := by have := HB.out.size; have := HG.out; omega
      have hb2 := below_one wr (.cells Z 41)
      have HZ := Go.Lib.hid (heap_alloc_new wr (.cells Z 41))
      have HX := Go.Lib.hid (setRow_heap _ wr.heap.size _ (RL b) 41 (0, 0) HZ.out)
      have HB2 := Go.Lib.hid (setRow_below (RL b) hb2 (Nat.le_refl _))
      clear hb2
      go_upto_region 5 with (first
        | (with_reducible show wpList _ _ _ (⟨none, Op.store 41 (.tmp 5) (.tmp 11), _, _, _, _⟩ :: _) _ _; go_loud (refine wpList_store_row rfl 41 (.tmp 5) (.tmp 11) rfl wr.heap.size (RL b) rfl rfl 41 Z HZ.out (HV.out.rsize b) (HV.out.zsize b) (HV.out.rone b) ?_))
        | fail)
      have HO2 := Go.Lib.hid (HO.out.below HB2.out)
      have HB3 := Go.Lib.hid (HB.out.trans (HB2.out.mono hgw))
      obtain ⟨g2, hg2⟩ : ∃ g2, g2 = wr.heap.size := ⟨_, rfl⟩
      rw [← hg2] at HX HO2 HB3 ⊢
      clear hg2 HZ HB2 HO HB hix hz
      generalize (wr.alloc (.cells Z 41)).setRow g2 (RL b) = w2 at *
      go_wp2_with (first
        | (with_reducible show wpList _ _ _ (⟨some 12, _, _, _, _, _⟩ :: _) _ _; go_loud (refine wpList_load_row rfl 41 (.tmp 5) rfl g2 rfl 41 (RL b) (0, 0) _ HX.out Tryz.underlying41 rfl (HV.out.rsize b) ?_))
        | fail)
      go_loopw [3, 13] (fun lv sv wr => ∃ (s : Nat) (u : Value), u = lv ∧ s ≤ 4 ∧ sv = .int .i64 (s : Int) ∧ Hid (OwnRec wr g u (recsT TT (4 * b + s))) ∧ Hid (Below g w wr)) (fun _ sv _ => 4 - (intOf sv).toNat)
      case atStart => exact ⟨0, _, rfl, by omega, rfl, HO2, HB3⟩
      case round =>
        clear HO2 HB3 HX
        obtain ⟨s, u, rfl, hs4, rfl, HO, HB⟩ := hrel
        by_cases hslt : s < 4
        · have hsI : (s : Int) < 4 := by omega
          have hgw : g ≤ wr.heap.size := by have := HB.out.size; have := HG.out; omega
          have hix2 := HV.out.slot b s hslt
          rw [slot6] at hix2
          have hsz := HS.out (4 * b + s) (by omega)
          have HRN := Go.Lib.hid (show recsT TT (4 * b + (s + 1)) = recsT TT (4 * b + s) ++ (if (TT (4 * b + s)).1 then [(TT (4 * b + s)).2] else []) from recsT_succ TT (4 * b + s))
          have HRL := Go.Lib.hid (show (recsT TT (4 * b + s)).length ≤ 32 from by have := recsT_len TT (4 * b + s); omega)
          generalize recsT TT (4 * b + s) = RO at *
          generalize TT (4 * b + s) = y at *
          obtain ⟨hq, kx, gx, ax, nx, sx⟩ := y
          simp only [] at hix2 hsz HRN
          have hbA := below_one wr (.cells #[.bool hq, .string kx, .bool gx, .int .i64 ax, .int .i64 nx, .string sx] 40)
          have HX := Go.Lib.hid (heap_alloc_new wr (.cells #[.bool hq, .string kx, .bool gx, .int .i64 ax, .int .i64 nx, .string sx] 40))
          have HO2 := Go.Lib.hid (HO.out.below hbA)
          have HB2 := Go.Lib.hid (HB.out.trans (hbA.mono hgw))
          have CF := fun W => frec_c kx gx ax nx sx W (by omega) (by omega)
          unfold recV at CF
          have CF := Go.Lib.hid CF
          clear hbA hsz HO HB
          go_upto_region 8 with (fail)
          obtain ⟨g3, hg3⟩ : ∃ g, g = wr.heap.size := ⟨_, rfl⟩
          rw [← hg3] at HX ⊢
          clear hg3 hix2
          generalize wr.alloc (.cells #[.bool hq, .string kx, .bool gx, .int .i64 ax, .int .i64 nx, .string sx] 40) = w3 at *
          obtain ⟨x0, x1, x2, x3, x4, x5⟩ := row6 HX.out
          cases hq with
          | false =>
            simp only [Bool.false_eq_true, if_false, List.append_nil] at HRN
            have HE := HRN.out
            go_wp2_with fail
            exact ⟨⟨s + 1, _, rfl, by omega, by go_num, by rw [HE]; exact HO2, HB2⟩, by simp only [intOf]; omega⟩
          | true =>
            simp only [if_true] at HRN
            go_wp2_with fail
            refine (CF.out _).mono ?_
            rintro e w4 ⟨rfl, hc⟩
            have hb5 := below_one w4 (.cells #[.string kx, .bool gx, .int .i64 ax, .int .i64 nx, .string sx] 28)
            have hc5 := hc.trans (hb5.mono hc.size)
            have HO5 := Go.Lib.hid (HO2.out.below hc5)
            have HB5 := Go.Lib.hid (HB2.out.trans (hc5.mono (by have := HB2.out.size; have := HG.out; omega)))
            have HON := Go.Lib.hid (RS.one w4 (kx, gx, ax, nx, sx))
            simp only [] at HON
            clear hb5 hc hc5 CF x0 x1 x2 x3 x4 x5 HX HO2 HB2
            go_wp2_with (first
              | (with_reducible show wpList _ _ _ (⟨some 23, _, _, _, _, _⟩ :: _) _ _; go_loud (refine wpList_append_recs rfl (.tmp 18) (.tmp 22) rfl g u (.slice (some ⟨w4.heap.size, 0, none⟩) 1 1) RO [(kx, gx, ax, nx, sx)] rfl rfl HO5.out HON.out (by have := HRL.out; simp; omega) (by have := HB5.out.size; have := HG.out; omega) ?_); intro v6 w6 ho6 hg6)
              | fail)
            have HO6 := Go.Lib.hid (show OwnRec w6 g v6 (recsT TT (4 * b + (s + 1))) by rw [HRN.out]; exact ho6)
            have HB6 := Go.Lib.hid (HB5.out.grown hg6 (by have := HB5.out.size; have := HG.out; omega) (fun j hj => HO5.out.row j hj))
            clear ho6 hg6
            go_wp2_with fail
            exact ⟨⟨s + 1, _, rfl, by omega, by go_num, HO6, HB6⟩, by simp only [intOf]; omega⟩
        · obtain rfl : s = 4 := by omega
          go_wp2_with fail
          exact ⟨⟨b + 1, _, rfl, by omega, by go_num, HO, HB⟩, by simp only [intOf]; omega⟩
    · obtain rfl : b = 8 := by omega
      have CS := Go.Lib.hid (sortrecs_c wr g u (recsT TT 32) HO.out (by have := recsT_len TT 32; omega))
      have HBK := Go.Lib.hid (fun k hk => HO.out.row k hk)
      clear HO
      go_wp2_with fail
      refine CS.out.mono ?_
      rintro e w2 ⟨rfl, l', hp, hr, ho, hgr⟩
      have HF := Go.Lib.hid (And.intro hp (And.intro hr (And.intro ho (HB.out.grown hgr (by have := HB.out.size; have := HG.out; omega) HBK.out))))
      clear hp hr ho hgr CS
      go_wp2_with fail
      go_ret
      exact ⟨_, l', rfl, HF.out⟩
end Go.Proofs.YthbnecdeebmlhaaGreat

namespace Go.Proofs.YthbnecdeebmlhaaGreat
open Go.RowKit

/-- May y lie in bucket b? -/
def lieOk (b : Nat) (y : Bool × RecT) : Bool :=
  if y.1 then mayT y.2 && (b == firstN (hR y.2) || b == othN (firstN (hR y.2)) (tagN (hR y.2))) else decide (y.2 = nullR)

theorem isnull (kx : ByteArray) (gx : Bool) (ax nx : Int) (sx : ByteArray) : decide ((kx, gx, ax, nx, sx) = nullR) = eqRec kx gx ax nx sx ⟨#[]⟩ false 0 0 ⟨#[]⟩ := (eqRec_iff (kx, gx, ax, nx, sx) nullR).symm

set_option maxHeartbeats 4000000 in
set_option maxRecDepth 100000 in
theorem maylie_c (b : Nat) (hq : Bool) (kx : ByteArray) (gx : Bool) (ax nx : Int) (sx : ByteArray) (w : World) (h1 : kx.size ≤ 1000) (h2 : sx.size ≤ 1000) :
    Calls Tryz.prog 70 #[.agg #[.bool hq, .string kx, .bool gx, .int .i64 ax, .int .i64 nx, .string sx], .int .i64 (b : Int)] w fun e w' => e = .returned (.bool (lieOk b (hq, kx, gx, ax, nx, sx))) ∧ Below w.heap.size w w' := by
  have HX := Go.Lib.hid (heap_alloc_new w (.cells #[.bool hq, .string kx, .bool gx, .int .i64 ax, .int .i64 nx, .string sx] 40))
  have HB := Go.Lib.hid (below_one w (.cells #[.bool hq, .string kx, .bool gx, .int .i64 ax, .int .i64 nx, .string sx] 40))
  have CM := fun W => pmay_c kx gx ax nx sx W (by unfold maxLen; omega) (by unfold maxLen; omega)
  unfold recV at CM
  rw [show mayRec kx gx ax nx sx = mayT (kx, gx, ax, nx, sx) from rfl] at CM
  have CM := Go.Lib.hid CM
  have CH := Go.Lib.hid fun W => hof_k kx (hashS kx) rfl W (by omega)
  have CF := Go.Lib.hid fun W => hfirst_c (hashS kx) W (hashS_lt kx)
  have CT := Go.Lib.hid fun W => htag_c (hashS kx) W (hashS_lt kx)
  have HFL := Go.Lib.hid (first_lt (hashS kx))
  have HTL := Go.Lib.hid (tag_lt (hashS kx))
  have CO := fun W => hother_c (firstN (hashS kx) : Int) (tagN (hashS kx) : Int) W (by omega) (by have := HFL.out; omega) (by omega) (by have := HTL.out; omega)
  rw [otherI_nat HFL.out HTL.out] at CO
  have CO := Go.Lib.hid CO
  have HL := Go.Lib.hid (show lieOk b (hq, kx, gx, ax, nx, sx) = if hq then mayT (kx, gx, ax, nx, sx) && (b == firstN (hashS kx) || b == othN (firstN (hashS kx)) (tagN (hashS kx))) else decide ((kx, gx, ax, nx, sx) = nullR) from rfl)
  rw [isnull] at HL
  generalize lieOk b (hq, kx, gx, ax, nx, sx) = r at *
  clear h1 h2
  go_enter Tryz.func70, Tryz.ntmps70
  cases hq with
  | false =>
    simp only [Bool.false_eq_true, if_false] at HL
    clear CM CH CF CT CO HFL HTL
    have HE := HL.out
    unfold eqRec eqR at HE
    have HE := Go.Lib.hid HE
    clear HL
    go_wp2_with fail
    all_goals
      go_ret
      refine ⟨?_, below_one _ _⟩
      rw [HE.out]
      congr 2
      simp_all
  | true =>
    simp only [if_true] at HL
    go_wp2_with fail
    refine (CM.out _).mono ?_
    rintro e w1 ⟨rfl, hc⟩
    have HX1 := Go.Lib.hid (row_kept HX.out hc)
    have HB1 := Go.Lib.hid (HB.out.trans (hc.mono HB.out.size))
    obtain ⟨x0, x1, x2, x3, x4, x5⟩ := row6 HX1.out
    clear hc CM
    generalize mayT (kx, gx, ax, nx, sx) = m at *
    cases m with
    | false =>
      have HE := Go.Lib.hid (show r = false from by rw [HL.out]; rfl)
      obtain rfl := HE.out
      go_wp2_with fail
      go_ret
      exact ⟨rfl, HB1.out⟩
    | true =>
      rw [Bool.true_and] at HL
      go_wp2_with fail
      refine (CH.out _).mono ?_
      rintro e w2 ⟨rfl, hc⟩
      have HB2 := Go.Lib.hid (HB1.out.trans (hc.mono HB1.out.size))
      clear hc CH x0 x1 x2 x3 x4 x5 HX HX1 HB HB1
      go_wp2_with fail
      refine (CF.out _).mono ?_
      rintro e w3 ⟨rfl, rfl⟩
      generalize othN (firstN (hashS kx)) (tagN (hashS kx)) = fo at *
      generalize firstN (hashS kx) = ff at *
      generalize tagN (hashS kx) = ft at *
      generalize hashS kx = hx at *
      by_cases hbf : b = ff
      · have hbf1 : ((b : Int) == (ff : Int)) = true := beq_iff_eq.2 (by omega)
        have HE := Go.Lib.hid (show r = true from by rw [HL.out]; simp [hbf])
        obtain rfl := HE.out
        clear hbf
        go_wp2_with fail
        go_ret
        exact ⟨rfl, HB2.out⟩
      · have hbf1 : ((b : Int) == (ff : Int)) = false := beq_eq_false_iff_ne.2 (by omega)
        have HE := Go.Lib.hid (show r = (b == fo) from by rw [HL.out]; simp [hbf])
        clear hbf HL
        go_wp2_with fail
        refine (CT.out _).mono ?_
        rintro e w4 ⟨rfl, rfl⟩
        go_wp2_with fail
        refine (CO.out _).mono ?_
        rintro e w5 ⟨rfl, rfl⟩
        have hbo : ((b : Int) == (fo : Int)) = (b == fo) := by
          by_cases h : b = fo
          · subst h; simp
          · rw [beq_eq_false_iff_ne.2 h, beq_eq_false_iff_ne.2 (by omega)]
        obtain rfl := HE.out
        go_wp2_with fail
        go_ret
        exact ⟨rfl, HB2.out⟩
end Go.Proofs.YthbnecdeebmlhaaGreat

namespace Go.Proofs.YthbnecdeebmlhaaGreat
open Go.RowKit

def keysB (l : List RecT) : Bool := decide ((l.map keyR).Nodup)
theorem keysB_iff {l : List RecT} : keysB l = true ↔ KeysOk l := by unfold keysB KeysOk; exact decide_eq_true_iff
theorem keysB_perm {l m : List RecT} (h : l.Perm m) : keysB l = keysB m := by
  unfold keysB
  exact decide_eq_decide.2 (h.map keyR).nodup_iff
theorem keys_twice {l : List RecT} (_hr : RiseL l) (p : Nat) (hp : p + 1 < l.length) (he : keyR l[p] = keyR l[p + 1]) : keysB l = false := by
  rw [Bool.eq_false_iff]
  intro hc
  have := List.pairwise_iff_getElem.1 (List.pairwise_map.1 (keysB_iff.1 hc)) p (p + 1) (by omega) hp (by omega)
  exact this he
theorem keys_once {l : List RecT} (hr : RiseL l) (h : ∀ p (hp : p + 1 < l.length), keyR l[p] ≠ keyR l[p + 1]) : keysB l = true := by
  rw [keysB_iff]
  unfold KeysOk
  refine List.pairwise_map.2 (List.pairwise_iff_getElem.2 ?_)
  intro i j hi hj hij e
  unfold RiseL at hr
  have hr := List.pairwise_iff_getElem.1 hr
  refine h i (by omega) ?_
  rcases Nat.lt_or_ge (i + 1) j with h2 | h2
  · have r1 := hr i (i + 1) hi (by omega) (by omega)
    have r2 := hr (i + 1) j (by omega) hj h2
    rw [← e] at r2
    rcases less_tri (keyR l[i]) (keyR l[i + 1]) with h5 | h5 | h5
    · rw [h5] at r2; cases r2
    · exact h5
    · rw [h5] at r1; cases r1
  · obtain rfl : j = i + 1 := by omega
    exact e

set_option maxHeartbeats 2000000 in
set_option maxRecDepth 100000 in
theorem twice_c (v : Value) (l : List RecT) (w : World) (hv : RS w v l) (hr : RiseL l) (hl : l.length ≤ 1000) :
    Calls Tryz.prog 71 #[v] w fun e w' => e = .returned (.bool (!keysB l)) ∧ Below w.heap.size w w' := by
  obtain ⟨a, cap, rfl, hm⟩ := hv.form
  have HR := Go.Lib.hid hv
  have HK := Go.Lib.hid hr
  have HBR := Go.Lib.hid (Below.refl w.heap.size w)
  have HYES := Go.Lib.hid (fun p (hp : p + 1 < l.length) he => keys_twice hr p hp he)
  have HNO := Go.Lib.hid (fun h => keys_once hr h)
  clear hv hr
  generalize keysB l = q at *
  go_enter Tryz.func71, Tryz.ntmps71
  go_wp2_with fail
  go_loopw [3] (fun ii wr => ∃ p : Nat, ii = .int .i64 ((p : Int) + 1) ∧ p ≤ l.length ∧ Hid (∀ j (hj : j + 1 < l.length), j < p → keyR l[j] ≠ keyR l[j + 1]) ∧ Hid (Below w.heap.size w wr)) (fun ii _ => 2000 - (intOf ii).toNat)
  case atStart => exact ⟨0, rfl, by omega, Go.Lib.hid (fun j _ h => absurd h (by omega)), HBR⟩
  case round =>
    obtain ⟨p, rfl, hp, HN, HB⟩ := hrel
    by_cases hlt : p + 1 < l.length
    · have hltI : (p : Int) + 1 < (l.length : Int) := by omega
      obtain ⟨b, o, rfl, -, -, c0, c1, c2, c3, c4⟩ := (HR.out.below HB.out).at p (by omega)
      obtain ⟨b', o', he, -, -, d0, d1, d2, d3, d4⟩ := (HR.out.below HB.out).at (p + 1) hlt
      simp only [Option.some.injEq, Addr.mk.injEq] at he
      obtain ⟨rfl, rfl, -⟩ := he
      have hix := run_idx5 b o l.length cap p (by omega)
      have hix2 : ∀ W, (Instr.indexAt 22 (.slice (some ⟨b, o, none⟩) l.length cap) (.int .i64 ((p : Int) + 1))).run Tryz.prog W = .ok (.pointer (some ⟨b, o + (p + 1) * 5, none⟩)) W := fun W => by
        have := run_idx5 b o l.length cap (p + 1) hlt W
        simpa using this
      have HY := Go.Lib.hid (HYES.out p hlt)
      have HNX := Go.Lib.hid (fun (h : keyR l[p] ≠ keyR l[p + 1]) => show ∀ j (hj : j + 1 < l.length), j < p + 1 → keyR l[j] ≠ keyR l[j + 1] from fun j hj h2 => by
        rcases Nat.lt_or_ge j p with h3 | h3
        · exact HN.out j hj h3
        · obtain rfl : j = p := by omega
          exact h)
      clear HN
      unfold keyR at HY
      rw [show keyR l[p] = l[p].1.toList from rfl, show keyR l[p + 1] = l[p + 1].1.toList from rfl] at HNX
      generalize l[p].1 = kx at *
      generalize l[p + 1].1 = ky at *
      clear c1 c2 c3 c4 d1 d2 d3 d4
      by_cases hq : kx.toList = ky.toList
      · have hqb : (kx.toList == ky.toList) = true := beq_iff_eq.2 hq
        have HE := Go.Lib.hid (HY.out hq)
        clear hq HY HNX
        go_upto_region 4 with (fail)
        go_quiet (fail)
        have HB2 := Go.Lib.hid (HB.out.trans ((below_drewN (Below.refl _ _) nq).mono HB.out.size))
        go_wp2_with fail
        go_ret
        exact ⟨by rw [HE.out]; rfl, HB2.out⟩
      · have hqb : (kx.toList == ky.toList) = false := beq_eq_false_iff_ne.2 hq
        have HE := Go.Lib.hid (HNX.out hq)
        clear hq HY HNX
        go_upto_region 4 with (fail)
        go_quiet (fail)
        have HB2 := Go.Lib.hid (HB.out.trans ((below_drewN (Below.refl _ _) nq).mono HB.out.size))
        clear c0 d0 hix hix2
        generalize wr.drewN nq = w2 at *
        go_wp2_with fail
        exact ⟨⟨p + 1, by go_num, by omega, HE, HB2⟩, by simp only [intOf]; omega⟩
    · have hltI : ¬ (p : Int) + 1 < (l.length : Int) := by omega
      have HE := Go.Lib.hid (HNO.out (fun j hj => HN.out j hj (by omega)))
      go_wp2_with fail
      go_ret
      exact ⟨by rw [HE.out]; rfl, HB.out⟩

/-! ### May -/
def lieTo (TT : TabT) (n : Nat) : Bool := (List.range n).all fun q => lieOk (q / 4) (TT q)
theorem lieTo_succ (TT : TabT) (n : Nat) : lieTo TT (n + 1) = (lieTo TT n && lieOk (n / 4) (TT n)) := by unfold lieTo; rw [List.range_succ, List.all_append]; simp
theorem lieTo_bad {TT : TabT} {q n : Nat} (h : lieOk (q / 4) (TT q) = false) (hq : q < n) : lieTo TT n = false := by
  unfold lieTo
  rw [List.all_eq_false]
  exact ⟨q, List.mem_range.2 hq, by simp [h]⟩
theorem keysB_snoc (l : List RecT) (x : RecT) : keysB (l ++ [x]) = (keysB l && !(l.map Prod.fst).any fun k => decide (k = x.1)) := by
  have hk : ∀ y : RecT, keyR y = keyR x ↔ y.1 = x.1 := fun y => keyR_eq
  by_cases h1 : KeysOk l
  · have h2 := keysB_iff.2 h1
    rw [h2, Bool.true_and]
    by_cases h3 : (l.map Prod.fst).any (fun k => decide (k = x.1)) = true
    · rw [h3]
      rw [Bool.not_true, Bool.eq_false_iff]
      intro hc
      obtain ⟨k, hkm, hke⟩ := List.any_eq_true.1 h3
      obtain ⟨y, hy, rfl⟩ := List.mem_map.1 hkm
      have hc := keysB_iff.1 hc
      unfold KeysOk at hc
      rw [List.map_append] at hc
      exact (List.nodup_append.1 hc).2.2 (keyR y) (List.mem_map.2 ⟨y, hy, rfl⟩) (keyR x) (by simp) ((hk y).2 (of_decide_eq_true hke))
    · rw [Bool.not_eq_true] at h3
      rw [h3, Bool.not_false, keysB_iff]
      refine h1.snoc fun y hy e => ?_
      rw [List.any_eq_false] at h3
      exact h3 y.1 (List.mem_map.2 ⟨y, hy, rfl⟩) (by simpa using (hk y).1 e)
  · have h2 : keysB l = false := by
      rw [Bool.eq_false_iff]
      exact fun h => h1 (keysB_iff.1 h)
    rw [h2, Bool.false_and, Bool.eq_false_iff]
    intro hc
    have hc := keysB_iff.1 hc
    unfold KeysOk at hc h1
    rw [List.map_append] at hc
    exact h1 (List.nodup_append.1 hc).1
theorem ok_split (TT : TabT) : ∀ n, okTo TT n = (lieTo TT n && keysB (recsT TT n))
  | 0 => rfl
  | n + 1 => by
    rw [okTo_succ, ok_split TT n, lieTo_succ, recsT_succ]
    unfold okSlot lieOk
    cases h : (TT n).1 with
    | false => simp only [Bool.false_eq_true, if_false, List.append_nil]; cases lieTo TT n <;> cases keysB (recsT TT n) <;> simp
    | true =>
      simp only [if_true]
      rw [keysB_snoc]
      show _ = _
      have : keysT TT n = (recsT TT n).map Prod.fst := rfl
      rw [this]
      cases lieTo TT n <;> cases keysB (recsT TT n) <;> cases mayT (TT n).2 <;> simp

set_option maxHeartbeats 4000000 in
set_option maxRecDepth 100000 in
theorem omay_c (TT : TabT) (w : World) (hs : ∀ q, q < 32 → (TT q).2.1.size ≤ 1000 ∧ (TT q).2.2.2.2.2.size ≤ 1000) :
    Calls Tryz.prog 42 #[.agg (tabL TT 32).toArray] w fun e w' => e = .returned (.bool (okTo TT 32)) ∧ Below w.heap.size w w' := by
  have HRG := Go.Lib.hid (TO.new w TT)
  have HB := Go.Lib.hid (below_one w (.cells (tabL TT 32).toArray 43))
  have HS := Go.Lib.hid hs
  have HV := Go.Lib.hid (tabV TT)
  have HRA := Go.Lib.hid (fun (W : World) g (h : TO W g TT) => h.range)
  have CL := Go.Lib.hid fun W => olist_c TT W hs
  have HOK := Go.Lib.hid (ok_split TT 32)
  clear hs
  generalize tabL TT 32 = TL at *
  generalize (fun b => (rowL TT b).toArray) = RL at *
  generalize (rowL (fun _ => (false, nullR)) 0).toArray = Z at *
  generalize okTo TT 32 = R at *
  obtain ⟨g, hg⟩ : ∃ g, g = w.heap.size := ⟨_, rfl⟩
  have HG := Go.Lib.hid hg
  rw [← hg] at HRG HB ⊢
  clear hg
  have hz := HV.out.zero
  go_enter Tryz.func42, Tryz.ntmps42
  go_upto_region 1 with (fail)
  rw [← HG.out]
  generalize w.alloc (.cells TL.toArray 43) = w1 at *
  have HRX := Go.Lib.hid (HRA.out _ _ HRG.out)
  go_wp2_with (first
    | (with_reducible show wpList _ _ _ (⟨some 7, _, _, _, _, _⟩ :: _) _ _; go_loud (refine wpList_load_mid rfl 43 (.tmp 1) rfl g 0 rfl TL _ HRX.out Tryz.underlying43 rfl HV.out.size ?_))
    | fail)
  go_loopw [8] (fun bv wr => ∃ (b : Nat), b ≤ 8 ∧ bv = .int .i64 (b : Int) ∧ Hid (lieTo TT (4 * b) = true) ∧ Hid (TO wr g TT) ∧ Hid (Below g w wr)) (fun bv _ => 8 - (intOf bv).toNat)
  case atStart => exact ⟨0, by omega, rfl, Go.Lib.hid rfl, HRG, HB⟩
  case round =>
    clear HRX HRG HB
    obtain ⟨b, hb, rfl, HO, HT, HB⟩ := hrel
    by_cases hlt : b < 8
    · have hltI : (b : Int) < 8 := by omega
      have hix := HV.out.row b hlt
      have hgw : g ≤ wr.heap.size := by have := HB.out.size; have := HG.out; omega
      have hb2 := below_one wr (.cells Z 41)
      have HZ := Go.Lib.hid (heap_alloc_new wr (.cells Z 41))
      have HX := Go.Lib.hid (setRow_heap _ wr.heap.size _ (RL b) 41 (0, 0) HZ.out)
      have hb3 := setRow_below (RL b) hb2 (Nat.le_refl _)
      have HB2 := Go.Lib.hid (HB.out.trans (hb3.mono hgw))
      have HT2 := Go.Lib.hid (HT.out.below hb3)
      clear hb2 hb3 HB HT
      go_upto_region 4 with (first
        | (with_reducible show wpList _ _ _ (⟨none, Op.store 41 (.tmp 4) (.tmp 11), _, _, _, _⟩ :: _) _ _; go_loud (refine wpList_store_row rfl 41 (.tmp 4) (.tmp 11) rfl wr.heap.size (RL b) rfl rfl 41 Z HZ.out (HV.out.rsize b) (HV.out.zsize b) (HV.out.rone b) ?_))
        | fail)
      obtain ⟨g2, hg2⟩ : ∃ g2, g2 = wr.heap.size := ⟨_, rfl⟩
      rw [← hg2] at HX HT2 HB2 ⊢
      clear hg2 HZ hix hz hgw
      generalize (wr.alloc (.cells Z 41)).setRow g2 (RL b) = w2 at *
      go_wp2_with (first
        | (with_reducible show wpList _ _ _ (⟨some 12, _, _, _, _, _⟩ :: _) _ _; go_loud (refine wpList_load_row rfl 41 (.tmp 4) rfl g2 rfl 41 (RL b) (0, 0) _ HX.out Tryz.underlying41 rfl (HV.out.rsize b) ?_))
        | fail)
      go_loopw [13] (fun sv wr => ∃ (s : Nat), s ≤ 4 ∧ sv = .int .i64 (s : Int) ∧ Hid (lieTo TT (4 * b + s) = true) ∧ Hid (TO wr g TT) ∧ Hid (Below g w wr)) (fun sv _ => 4 - (intOf sv).toNat)
      case atStart => exact ⟨0, by omega, rfl, HO, HT2, HB2⟩
      case round =>
        clear HT2 HB2 HX HO
        obtain ⟨s, hs4, rfl, HO, HT, HB⟩ := hrel
        by_cases hslt : s < 4
        · have hsI : (s : Int) < 4 := by omega
          have hgw : g ≤ wr.heap.size := by have := HB.out.size; have := HG.out; omega
          have hix2 := HV.out.slot b s hslt
          rw [slot6] at hix2
          have hsz := HS.out (4 * b + s) (by omega)
          have HGOOD := Go.Lib.hid (fun (h : lieOk b (TT (4 * b + s)) = true) => show lieTo TT (4 * b + (s + 1)) = true from by rw [show 4 * b + (s + 1) = (4 * b + s) + 1 by omega, lieTo_succ, HO.out, show (4 * b + s) / 4 = b by omega, h]; rfl)
          have HBAD := Go.Lib.hid (fun (h : lieOk b (TT (4 * b + s)) = false) => show R = false from by rw [HOK.out, lieTo_bad (q := 4 * b + s) (by rw [show (4 * b + s) / 4 = b by omega]; exact h) (by omega)]; rfl)
          generalize TT (4 * b + s) = y at *
          obtain ⟨hq, kx, gx, ax, nx, sx⟩ := y
          simp only [] at hix2 hsz HGOOD HBAD
          have hbA := below_one wr (.cells #[.bool hq, .string kx, .bool gx, .int .i64 ax, .int .i64 nx, .string sx] 40)
          have HX := Go.Lib.hid (heap_alloc_new wr (.cells #[.bool hq, .string kx, .bool gx, .int .i64 ax, .int .i64 nx, .string sx] 40))
          have HT2 := Go.Lib.hid (HT.out.below hbA)
          have HB2 := Go.Lib.hid (HB.out.trans (hbA.mono hgw))
          have CF := Go.Lib.hid fun W => maylie_c b hq kx gx ax nx sx W hsz.1 hsz.2
          generalize lieOk b (hq, kx, gx, ax, nx, sx) = r at *
          clear hbA hsz HO HB HT
          go_upto_region 7 with (fail)
          obtain ⟨g3, hg3⟩ : ∃ g, g = wr.heap.size := ⟨_, rfl⟩
          rw [← hg3] at HX ⊢
          clear hg3 hix2
          generalize wr.alloc (.cells #[.bool hq, .string kx, .bool gx, .int .i64 ax, .int .i64 nx, .string sx] 40) = w3 at *
          obtain ⟨x0, x1, x2, x3, x4, x5⟩ := row6 HX.out
          go_wp2_with fail
          refine (CF.out _).mono ?_
          rintro e w4 ⟨rfl, hc⟩
          have HT4 := Go.Lib.hid (HT2.out.below hc)
          have HB4 := Go.Lib.hid (HB2.out.trans (hc.mono (by have := HB2.out.size; have := HG.out; omega)))
          clear hc CF x0 x1 x2 x3 x4 x5 HX HT2 HB2
          cases r with
          | false =>
            have HE := Go.Lib.hid (HBAD.out rfl)
            go_wp2_with fail
            go_ret
            exact ⟨by rw [HE.out]; rfl, HB4.out⟩
          | true =>
            have HE := Go.Lib.hid (HGOOD.out rfl)
            go_wp2_with fail
            exact ⟨⟨s + 1, by omega, by go_num, HE, HT4, HB4⟩, by simp only [intOf]; omega⟩
        · obtain rfl : s = 4 := by omega
          go_wp2_with fail
          exact ⟨⟨b + 1, by omega, by go_num, HO, HT, HB⟩, by simp only [intOf]; omega⟩
    · obtain rfl : b = 8 := by omega
      rw [HO.out, Bool.true_and] at HOK
      have HRX := Go.Lib.hid (HRA.out _ _ HT.out)
      go_wp2_with (first
        | (with_reducible show wpList _ _ _ (⟨some 22, _, _, _, _, _⟩ :: _) _ _; go_loud (refine wpList_load_mid rfl 43 (.tmp 1) rfl g 0 rfl TL _ HRX.out Tryz.underlying43 rfl HV.out.size ?_))
        | fail)
      refine (CL.out _).mono ?_
      rintro e w2 ⟨v2, l2, rfl, hp, hr, ho, hc⟩
      have hl2 : l2.length ≤ 1000 := by have := hp.length_eq; have := recsT_len TT 32; omega
      have CT := twice_c v2 l2 w2 ho.rs hr hl2
      rw [keysB_perm hp, ← HOK.out] at CT
      have CT := Go.Lib.hid CT
      have HB2 := Go.Lib.hid (HB.out.trans (hc.mono (by have := HB.out.size; have := HG.out; omega)))
      clear hp hr ho hc hl2 CL
      go_wp2_with fail
      refine CT.out.mono ?_
      rintro e w3 ⟨rfl, hc⟩
      have HB3 := Go.Lib.hid (HB2.out.trans (hc.mono (by have := HB2.out.size; have := HG.out; omega)))
      clear hc CT
      go_wp2_with fail
      go_ret
      exact ⟨by simp, HB3.out⟩
end Go.Proofs.YthbnecdeebmlhaaGreat

namespace Go.Proofs.YthbnecdeebmlhaaGreat
open Go.RowKit
open Go.Lib (uvarint zigzag)

/-! ### Numbers: what is read is written so. -/
theorem unzig_of (u : Nat) : zigzag (unzig u) = u := by
  unfold unzig zigzag
  split <;> split <;> omega

theorem getS_canon : ∀ (l : List UInt8) (k u : Nat) (n : Int) (m : Nat), k ≤ 9 → getS l k u = (n, m, 0) →
    ∃ x r, n = unzig (u + x * 128 ^ k) ∧ m = k + (uvarint x).length ∧ l = uvarint x ++ r ∧ (0 < k → 0 < x)
  | [], k, u, n, m, _, h => by simp [getS] at h
  | c :: r, k, u, n, m, hk, h => by
    rw [getS] at h
    have hc : c.toNat < 256 := c.toNat_lt
    split at h
    · simp at h
    · rename_i h9
      split at h
      · rename_i h128
        by_cases hk9 : k = 9
        · exact absurd ⟨hk9, by omega⟩ h9
        · obtain ⟨x, r', e1, e2, e3, e4⟩ := getS_canon r (k + 1) _ n m (by omega) h
          have hx := e4 (by omega)
          refine ⟨c.toNat % 128 + 128 * x, r', ?_, ?_, ?_, fun _ => by omega⟩
          · rw [e1, Nat.pow_succ]
            congr 1
            rw [Nat.add_mul, Nat.mul_assoc, Nat.mul_comm 128 (x * 128 ^ k), Nat.mul_assoc]
            omega
          · rw [Go.Lib.uvarint_big (by omega), e2, show (c.toNat % 128 + 128 * x) / 128 = x by omega, List.length_cons]
            omega
          · rw [Go.Lib.uvarint_big (by omega), show (c.toNat % 128 + 128 * x) / 128 = x by omega, show (c.toNat % 128 + 128 * x) % 128 + 128 = c.toNat by omega, e3]
            simp
      · split at h
        · simp at h
        · rename_i h1 h2
          simp only [Prod.mk.injEq, and_true] at h
          obtain ⟨rfl, rfl⟩ := h
          refine ⟨c.toNat, r, rfl, ?_, ?_, fun hk0 => by omega⟩
          · rw [Go.Lib.uvarint_small (by omega)]; simp
          · rw [Go.Lib.uvarint_small (by omega)]
            simp

theorem getB_canon {l : List UInt8} {n : Int} {m : Nat} (h : getB l = (n, m, 0)) : m = (uvarint (zigzag n)).length ∧ l = uvarint (zigzag n) ++ l.drop m := by
  obtain ⟨x, r, e1, e2, e3, -⟩ := getS_canon l 0 0 n m (by omega) h
  simp only [Nat.pow_zero, Nat.mul_one, Nat.zero_add] at e1 e2
  have hx : zigzag n = x := by rw [e1, unzig_of]
  rw [hx]
  refine ⟨e2, ?_⟩
  rw [e2]
  conv => rhs; rw [e3]
  simp [e3]

theorem textB_canon {l s : List UInt8} {m : Nat} (h : textB l = (s, m, 0)) : s.length ≤ 65536 ∧ l = putT s ++ l.drop m := by
  unfold textB at h
  split at h
  · rename_i h0
    simp only [Prod.mk.injEq] at h
    exact absurd h.2.2 h0
  · split at h
    · simp at h
    · split at h
      · simp at h
      · rename_i h0 h1 h2
        simp only [Prod.mk.injEq, and_true] at h
        obtain ⟨rfl, rfl⟩ := h
        have h0 : (getB l).2.2 = 0 := Classical.byContradiction fun hh => h0 hh
        rcases hr : getB l with ⟨n, k, e⟩
        rw [hr] at h0 h1 h2
        simp only [] at h0 h1 h2
        subst h0
        obtain ⟨-, e2⟩ := getB_canon hr
        have hsl : ((l.drop k).take n.toNat).length = n.toNat := by rw [List.length_take, List.length_drop]; omega
        refine ⟨by rw [hsl]; omega, ?_⟩
        unfold putT
        rw [hsl, show ((n.toNat : Nat) : Int) = n by omega, List.append_assoc, ← List.drop_drop, List.take_append_drop]
        exact e2

end Go.Proofs.YthbnecdeebmlhaaGreat

namespace Go.Proofs.YthbnecdeebmlhaaGreat
open Go.RowKit
open Go.Lib (uvarint zigzag)

/-- Key, Gone, Kind, N, S; how many bytes; the error. -/
abbrev RdT := (List UInt8 × Bool × Int × Int × List UInt8) × Nat × Int
def rdErr (e : Int) : RdT := (([], false, 0, 0, []), 0, e)
def readB (l : List UInt8) : RdT :=
  if (textB l).2.2 ≠ 0 then rdErr (textB l).2.2
  else if mayK (str (textB l).1) = false then rdErr 1
  else if (getB (l.drop (textB l).2.1)).2.2 ≠ 0 then rdErr (getB (l.drop (textB l).2.1)).2.2
  else if (getB (l.drop (textB l).2.1)).1 = 0 then (((textB l).1, true, 0, 0, []), (textB l).2.1 + (getB (l.drop (textB l).2.1)).2.1, 0)
  else if (valB (l.drop (textB l).2.1)).2.2 ≠ 0 then rdErr (valB (l.drop (textB l).2.1)).2.2
  else (((textB l).1, false, (valB (l.drop (textB l).2.1)).1), (textB l).2.1 + (valB (l.drop (textB l).2.1)).2.1, 0)

section
variable {l key : List UInt8} {p m q : Nat} {x e e2 e3 : Int} {v : Int × Int × List UInt8}
theorem readB_e1 (h : textB l = (key, p, e)) (he : e ≠ 0) : readB l = rdErr e := by
  unfold readB; rw [h]; simp [he]
theorem readB_e2 (h : textB l = (key, p, 0)) (hk : mayK (str key) = false) : readB l = rdErr 1 := by
  unfold readB; rw [h]; simp [hk]
theorem readB_e3 (h : textB l = (key, p, 0)) (hk : mayK (str key) = true) (g : getB (l.drop p) = (x, m, e2)) (he : e2 ≠ 0) : readB l = rdErr e2 := by
  unfold readB; rw [h]; simp only []; rw [g]; simp [hk, he]
theorem readB_gone (h : textB l = (key, p, 0)) (hk : mayK (str key) = true) (g : getB (l.drop p) = (0, m, 0)) : readB l = ((key, true, 0, 0, []), p + m, 0) := by
  unfold readB; rw [h]; simp only []; rw [g]; simp [hk]
theorem readB_e4 (h : textB l = (key, p, 0)) (hk : mayK (str key) = true) (g : getB (l.drop p) = (x, m, 0)) (hx : x ≠ 0) (u : valB (l.drop p) = (v, q, e3)) (he : e3 ≠ 0) : readB l = rdErr e3 := by
  unfold readB; rw [h]; simp only []; rw [g, u]; simp [hk, hx, he]
theorem readB_ok (h : textB l = (key, p, 0)) (hk : mayK (str key) = true) (g : getB (l.drop p) = (x, m, 0)) (hx : x ≠ 0) (u : valB (l.drop p) = (v, q, 0)) : readB l = ((key, false, v), p + q, 0) := by
  unfold readB; rw [h]; simp only []; rw [g, u]; simp [hk, hx]
end

theorem textB_fits (l : List UInt8) : (textB l).2.1 ≤ l.length ∧ (textB l).2.1 ≤ 70000 ∧ (textB l).1.length ≤ 65536 ∧ ((textB l).2.2 = 0 ∨ (textB l).2.2 = 1 ∨ (textB l).2.2 = 2) := by
  have hf := getB_fits l
  unfold textB
  split
  · exact ⟨by simp, by simp, by simp, hf.2.2.2.1⟩
  · split
    · simp
    · split
      · simp
      · rename_i c1 c2 c3
        simp only [not_or, Int.not_lt, Nat.not_lt] at c2 c3
        obtain ⟨c4, c5⟩ := c2
        have c6 : (getB l).1.toNat ≤ 65536 := by omega
        refine ⟨?_, ?_, ?_, .inl rfl⟩
        · show (getB l).2.1 + (getB l).1.toNat ≤ l.length; exact c3
        · show (getB l).2.1 + (getB l).1.toNat ≤ 70000; omega
        · show ((l.drop _).take _).length ≤ 65536; rw [List.length_take]; omega
theorem valB_fits (l : List UInt8) : (valB l).2.1 ≤ l.length ∧ (valB l).2.1 ≤ 70010 ∧ ((valB l).2.2 = 0 ∨ (valB l).2.2 = 1 ∨ (valB l).2.2 = 2) ∧ (valB l).1.2.2.length ≤ 65536 := by
  have hf := getB_fits l
  have hf2 := getB_fits (l.drop (getB l).2.1)
  have ht2 := textB_fits (l.drop (getB l).2.1)
  rw [List.length_drop] at hf2 ht2
  unfold valB
  split
  · split
    · split
      · simp; omega
      · simp; omega
    · split
      · split
        · split
          · simp; omega
          · simp
        · simp; omega
      · simp
  · simp; omega

theorem mayRec_key {key : ByteArray} {gone : Bool} {k n : Int} {s : ByteArray} (h : mayRec key gone k n s = true) : mayK key = true ∧ key.size ≤ 16 := by
  unfold mayRec at h
  rw [Bool.and_eq_true] at h
  have h1 := h.1
  unfold mayK at h1
  rw [Bool.and_eq_true, decide_eq_true_eq, decide_eq_true_eq] at h1
  exact ⟨h.1, h1.2⟩
theorem mayRec_gone {key : ByteArray} {k n : Int} {s : List UInt8} (h : mayRec key true k n (str s) = true) : k = 0 ∧ n = 0 ∧ s = [] := by
  unfold mayRec at h
  rw [Bool.and_eq_true] at h
  have h1 := h.2
  simp only [if_true] at h1
  rw [Bool.and_eq_true, Bool.and_eq_true, beq_iff_eq, beq_iff_eq, ByteArray.toList_eq, List.isEmpty_iff] at h1
  exact ⟨h1.1.1, h1.1.2, by simpa [str] using h1.2⟩
theorem mayRec_val {key : ByteArray} {k n : Int} {s : ByteArray} (h : mayRec key false k n s = true) : mayR k n s = true := by
  unfold mayRec at h
  rw [Bool.and_eq_true] at h
  simpa using h.2

/-- What was written is told again. -/
theorem readB_put (key : List UInt8) (gone : Bool) (k n : Int) (s r : List UInt8) (h : mayRec (str key) gone k n (str s) = true) (h0 : -9223372036854775808 ≤ n) (h1 : n ≤ 9223372036854775807) : readB (recB key gone k n s ++ r) = ((key, gone, k, n, s), (recB key gone k n s).length, 0) := by
  obtain ⟨hk, hk16⟩ := mayRec_key h
  rw [str_size] at hk16
  cases gone with
  | true =>
    obtain ⟨rfl, rfl, rfl⟩ := mayRec_gone h
    have e1 : recB key true 0 0 [] = putT key ++ uvarint (zigzag 0) := rfl
    have t1 := textB_put key (uvarint (zigzag 0) ++ r) (by omega)
    have g1 := getB_put 0 (by omega) (by omega) r
    rw [e1, List.append_assoc, readB_gone t1 hk (m := (uvarint (zigzag 0)).length) (by rw [List.drop_left]; exact g1), List.length_append]
  | false =>
    have hv := mayRec_val h
    have e1 : recB key false k n s = putT key ++ putV k n s := rfl
    have t1 := textB_put key (putV k n s ++ r) (by omega)
    have v1 := valB_put k n s r hv h0 h1
    have hkk : k = 1 ∨ k = 2 := by
      rcases mayR_cases hv with ⟨h, -⟩ | ⟨h, -⟩
      · exact .inl h
      · exact .inr h
    obtain ⟨rest, hr⟩ : ∃ rest, putV k n s ++ r = uvarint (zigzag k) ++ rest := ⟨_, by unfold putV; rw [List.append_assoc]⟩
    have g1 := getB_put k (by omega) (by omega) rest
    rw [← hr] at g1
    rw [e1, List.append_assoc, readB_ok t1 hk (by rw [List.drop_left]; exact g1) (by omega) (by rw [List.drop_left]; exact v1), List.length_append]

theorem putV_len {k n : Int} {s : List UInt8} (h : mayR k n (str s) = true) (h0 : -9223372036854775808 ≤ n) (h1 : n ≤ 9223372036854775807) : 2 ≤ (putV k n s).length ∧ (putV k n s).length ≤ 100 := by
  rcases mayR_cases h with ⟨rfl, rfl⟩ | ⟨rfl, rfl, hs⟩
  · have e1 := Go.Lib.uvarint_length64 (Go.Lib.zigzag_lt (x := 1) (by omega) (by omega))
    have e2 := Go.Lib.uvarint_length64 (Go.Lib.zigzag_lt h0 h1)
    have p1 := Go.Lib.uvarint_pos (zigzag 1)
    have p2 := Go.Lib.uvarint_pos (zigzag n)
    unfold putV
    rw [if_pos rfl, List.length_append]
    omega
  · have e1 := Go.Lib.uvarint_length64 (Go.Lib.zigzag_lt (x := 2) (by omega) (by omega))
    have e2 := Go.Lib.uvarint_length64 (Go.Lib.zigzag_lt (x := (s.length : Int)) (by omega) (by omega))
    have p1 := Go.Lib.uvarint_pos (zigzag 2)
    have p2 := Go.Lib.uvarint_pos (zigzag s.length)
    unfold putV putT
    rw [if_neg (by omega), List.length_append, List.length_append]
    omega
theorem recB_len {key : List UInt8} {gone : Bool} {k n : Int} {s : List UInt8} (h : mayRec (str key) gone k n (str s) = true) (h0 : -9223372036854775808 ≤ n) (h1 : n ≤ 9223372036854775807) : 2 ≤ (recB key gone k n s).length ∧ (recB key gone k n s).length ≤ 200 := by
  obtain ⟨hk, hk16⟩ := mayRec_key h
  rw [str_size] at hk16
  have e2 := Go.Lib.uvarint_length64 (Go.Lib.zigzag_lt (x := (key.length : Int)) (by omega) (by omega))
  have p2 := Go.Lib.uvarint_pos (zigzag key.length)
  unfold recB putT
  rw [List.length_append, List.length_append]
  cases gone with
  | true =>
    have e3 := Go.Lib.uvarint_length64 (Go.Lib.zigzag_lt (x := 0) (by omega) (by omega))
    have p3 := Go.Lib.uvarint_pos (zigzag 0)
    simp only [if_true]
    omega
  | false =>
    have := putV_len (mayRec_val h) h0 h1
    simp only [Bool.false_eq_true, if_false]
    omega
end Go.Proofs.YthbnecdeebmlhaaGreat

namespace Go.Proofs.YthbnecdeebmlhaaGreat
open Go.RowKit
open Go.Lib (uvarint zigzag)

/-! ### A value, a record: what is read is written so. -/
theorem valB_canon {l s : List UInt8} {k n : Int} {m : Nat} (h : valB l = ((k, n, s), m, 0)) :
    mayR k n (str s) = true ∧ (-9223372036854775808 ≤ n ∧ n ≤ 9223372036854775807) ∧ l = putV k n s ++ l.drop m := by
  rcases hr : getB l with ⟨x, p, e⟩
  by_cases he : e = 0
  · subst he
    have c1 := (getB_canon hr).2
    by_cases h1 : x = 1
    · subst h1
      rcases hg : getB (l.drop p) with ⟨y, q, e2⟩
      rw [valB_num l p q y e2 hr hg] at h
      by_cases h2 : e2 = 0
      · subst h2
        rw [if_pos rfl] at h
        simp only [Prod.mk.injEq, and_true] at h
        obtain ⟨⟨rfl, rfl, rfl⟩, rfl⟩ := h
        have c2 := (getB_canon hg).2
        have f2 := getB_fits (l.drop p)
        rw [hg] at f2
        simp only [] at f2
        refine ⟨by simp [mayR, str, ByteArray.toList_eq], by omega, ?_⟩
        have e1 : putV 1 y [] = uvarint (zigzag 1) ++ uvarint (zigzag y) := by simp [putV]
        rw [e1, List.append_assoc, ← List.drop_drop, ← c2]
        exact c1
      · rw [if_neg h2] at h
        simp only [Prod.mk.injEq] at h
        exact absurd h.2.2 h2
    · by_cases h2 : x = 2
      · subst h2
        rcases hg : textB (l.drop p) with ⟨y, q, e2⟩
        rw [valB_text l y p q e2 hr hg] at h
        by_cases h3 : e2 = 0
        · subst h3
          rw [if_pos rfl] at h
          by_cases h4 : mayR 2 0 (str y) = true
          · rw [if_pos h4] at h
            simp only [Prod.mk.injEq, and_true] at h
            obtain ⟨⟨rfl, rfl, rfl⟩, rfl⟩ := h
            have c2 := (textB_canon hg).2
            refine ⟨h4, by omega, ?_⟩
            have e1 : putV 2 0 y = uvarint (zigzag 2) ++ putT y := by simp [putV]
            rw [e1, List.append_assoc, ← List.drop_drop, ← c2]
            exact c1
          · rw [if_neg h4] at h
            simp at h
        · rw [if_neg h3] at h
          simp only [Prod.mk.injEq] at h
          exact absurd h.2.2 h3
      · rw [valB_else l x p hr h1 h2] at h
        simp at h
  · rw [valB_err l x e p hr he] at h
    simp only [Prod.mk.injEq] at h
    exact absurd h.2.2 he

/-- Key, Gone, Kind, N, S, as the program holds them. -/
def unR (r : List UInt8 × Bool × Int × Int × List UInt8) : RecT := (str r.1, r.2.1, r.2.2.1, r.2.2.2.1, str r.2.2.2.2)
def recT (x : RecT) : List UInt8 := recB (bl x.1) x.2.1 x.2.2.1 x.2.2.2.1 (bl x.2.2.2.2)

theorem readB_canon {l : List UInt8} {r : List UInt8 × Bool × Int × Int × List UInt8} {m : Nat} (h : readB l = (r, m, 0)) :
    mayT (unR r) = true ∧ RecOk (unR r) ∧ l = recT (unR r) ++ l.drop m ∧ m ≤ l.length := by
  rcases hr : textB l with ⟨key, p, e⟩
  by_cases he : e = 0
  · subst he
    have c1 := (textB_canon hr).2
    have f1 := textB_fits l
    rw [hr] at f1
    simp only [] at f1
    cases hk : mayK (str key) with
    | false =>
      rw [readB_e2 hr hk] at h
      simp [rdErr] at h
    | true =>
      have hk16 : (str key).size ≤ 16 := by
        have h1 := hk
        unfold mayK at h1
        rw [Bool.and_eq_true, decide_eq_true_eq, decide_eq_true_eq] at h1
        exact h1.2
      rcases hg : getB (l.drop p) with ⟨x, q, e2⟩
      have f2 := getB_fits (l.drop p)
      rw [hg] at f2
      simp only [List.length_drop] at f2
      by_cases h2 : e2 = 0
      · subst h2
        by_cases hx : x = 0
        · subst hx
          rw [readB_gone hr hk hg] at h
          simp only [Prod.mk.injEq, and_true] at h
          obtain ⟨rfl, rfl⟩ := h
          have c2 := (getB_canon hg).2
          refine ⟨?_, ⟨?_, (show (Lit.int .i64 0).wf = true by decide), (show (Lit.int .i64 0).wf = true by decide), ?_⟩, ?_, by omega⟩
          · show mayRec (str key) true 0 0 (str []) = true
            unfold mayRec
            rw [hk]
            simp [str, ByteArray.toList_eq]
          · show (str key).size ≤ maxLen
            unfold maxLen; omega
          · show (str []).size ≤ maxLen
            rw [str_size]; unfold maxLen; simp
          · show l = recB (bl (str key)) true 0 0 (bl (str [])) ++ _
            rw [bl_str, bl_str]
            have e1 : recB key true 0 0 [] = putT key ++ uvarint (zigzag 0) := rfl
            rw [e1, List.append_assoc, ← List.drop_drop, ← c2]
            exact c1
        · rcases hv : valB (l.drop p) with ⟨v, u, e3⟩
          have f3 := valB_fits (l.drop p)
          rw [hv] at f3
          simp only [List.length_drop] at f3
          by_cases h3 : e3 = 0
          · subst h3
            rw [readB_ok hr hk hg hx hv] at h
            simp only [Prod.mk.injEq, and_true] at h
            obtain ⟨rfl, rfl⟩ := h
            obtain ⟨vk, vn, vs⟩ := v
            obtain ⟨c2, c3, c4⟩ := valB_canon hv
            have hkb : -9223372036854775808 ≤ vk ∧ vk ≤ 9223372036854775807 := by
              rcases mayR_cases c2 with ⟨h, -⟩ | ⟨h, -⟩ <;> omega
            refine ⟨?_, ⟨?_, bounds_wf hkb.1 hkb.2, bounds_wf c3.1 c3.2, ?_⟩, ?_, by omega⟩
            · show mayRec (str key) false vk vn (str vs) = true
              unfold mayRec
              rw [hk]
              simpa using c2
            · show (str key).size ≤ maxLen
              unfold maxLen; omega
            · show (str vs).size ≤ maxLen
              rw [str_size]
              rcases mayR_cases c2 with ⟨-, h⟩ | ⟨-, -, h⟩
              · subst h; unfold maxLen; simp
              · unfold maxLen; omega
            · show l = recB (bl (str key)) false vk vn (bl (str vs)) ++ _
              rw [bl_str, bl_str]
              have e1 : recB key false vk vn vs = putT key ++ putV vk vn vs := rfl
              rw [e1, List.append_assoc, ← List.drop_drop, ← c4]
              exact c1
          · rw [readB_e4 hr hk hg hx hv h3] at h
            simp only [rdErr, Prod.mk.injEq] at h
            exact absurd h.2.2 h3
      · rw [readB_e3 hr hk hg h2] at h
        simp only [rdErr, Prod.mk.injEq] at h
        exact absurd h.2.2 h2
  · rw [readB_e1 hr he] at h
    simp only [rdErr, Prod.mk.injEq] at h
    exact absurd h.2.2 he

theorem recOk_n {x : RecT} (h : RecOk x) : -9223372036854775808 ≤ x.2.2.2.1 ∧ x.2.2.2.1 ≤ 9223372036854775807 := by
  have := bounds_i64 h.2.2.1
  omega
theorem recOk_k {x : RecT} (h : RecOk x) : -9223372036854775808 ≤ x.2.2.1 ∧ x.2.2.1 ≤ 9223372036854775807 := by
  have := bounds_i64 h.2.1
  omega
theorem readT_put {x : RecT} (h : mayT x = true) (hok : RecOk x) (r : List UInt8) : ∃ y, readB (recT x ++ r) = (y, (recT x).length, 0) ∧ unR y = x := by
  obtain ⟨key, gone, k, n, s⟩ := x
  obtain ⟨h0, h1⟩ := recOk_n hok
  have := readB_put (bl key) gone k n (bl s) r (by rw [str_bl, str_bl]; exact h) h0 h1
  exact ⟨_, this, by unfold unR; simp only [str_bl]⟩
theorem recT_len {x : RecT} (h : mayT x = true) (hok : RecOk x) : 2 ≤ (recT x).length ∧ (recT x).length ≤ 200 := by
  obtain ⟨key, gone, k, n, s⟩ := x
  obtain ⟨h0, h1⟩ := recOk_n hok
  exact recB_len (key := bl key) (s := bl s) (by rw [str_bl, str_bl]; exact h) h0 h1

/-! ### Rows. -/
end Go.Proofs.YthbnecdeebmlhaaGreat

namespace Go.Proofs.YthbnecdeebmlhaaGreat
open Go.RowKit

/-- Of the blocks that there were all but b and r are as they were. -/
structure Two (b : Nat) (r : Option Nat) (w w' : World) : Prop where
  os : w'.os = w.os
  tape : w'.tape = w.tape
  output : w'.output = w.output
  size : w.heap.size ≤ w'.heap.size
  block : ∀ k, k < w.heap.size → k ≠ b → some k ≠ r → w'.heap[k]? = w.heap[k]?

theorem Two.refl (b : Nat) (r : Option Nat) (w : World) : Two b r w w := ⟨rfl, rfl, rfl, Nat.le_refl _, fun _ _ _ _ => rfl⟩
/-- The second row is the first one, or new. -/
theorem Two.trans {b : Nat} {r r' : Option Nat} {w w1 w2 : World} (h : Two b r w w1) (k : Two b r' w1 w2) (hr : ∀ j, r' = some j → r = some j ∨ w.heap.size ≤ j) : Two b r w w2 :=
  ⟨k.os.trans h.os, k.tape.trans h.tape, k.output.trans h.output, Nat.le_trans h.size k.size, fun i hi hb hn => (k.block i (Nat.lt_of_lt_of_le hi h.size) hb (fun e => by
    rcases hr i e.symm with h' | h'
    · exact hn h'.symm
    · omega)).trans (h.block i hi hb hn)⟩
theorem Two.of_grown {b : Nat} {r : Option Nat} {w w' : World} (h : w.grownBy w' r) : Two b r w w' := ⟨h.os, h.tape, h.output, h.size, fun k hk _ hr => h.block k hk hr⟩
theorem Two.of_below {b : Nat} {r : Option Nat} {w w' : World} (h : Below w.heap.size w w') : Two b r w w' := ⟨h.os, h.tape, h.output, h.size, fun k hk _ _ => h.block k hk⟩
theorem Two.below {b : Nat} {r : Option Nat} {w w' : World} {B : Nat} (h : Two b r w w') (hb : B ≤ b) (hr : ∀ k, r = some k → B ≤ k) (hB : B ≤ w.heap.size) : Below B w w' :=
  ⟨h.os, h.tape, h.output, h.size, fun k hk => h.block k (by omega) (by omega) (fun e => by have := hr k e.symm; omega)⟩
theorem Two.set {b : Nat} {r : Option Nat} {w w' : World} (h : Two b r w w') {p : Addr} (hp : p.block = b ∨ some p.block = r ∨ w.heap.size ≤ p.block) (u : Value) : Two b r w (w'.setCell p u) :=
  ⟨h.os, h.tape, h.output, by simpa [World.setCell] using h.size, fun k hk hb hr => (Below.heap_setCell _ _ _ _ (by rintro rfl; rcases hp with hp | hp | hp <;> first | exact hb hp | exact hr hp | omega)).trans (h.block k hk hb hr)⟩

theorem heap_set {w : World} {b : Nat} {cs : Array Value} {t : TypeId} {fr : Nat × Nat} (h : w.heap[b]? = some (.cells cs t fr)) (o : Nat) (u : Value) : (w.setCell ⟨b, o, none⟩ u).heap[b]? = some (.cells (cs.setIfInBounds o u) t fr) := by
  simp [World.setCell, Array.getElem?_modify, h]

/-- b, a *bits.Bits whose row is v, holds the bytes p and says n bits; all of it lies from block B on. -/
structure BB (w : World) (B b : Nat) (v : Value) (p : List UInt8) (n : Nat) : Prop where
  blk : w.heap[b]? = some (.cells #[v, .int .i64 (n : Int)] 80)
  row : Own 5 w B v p
  low : B ≤ b
/-- It holds the bits l. -/
abbrev BT (w : World) (B b : Nat) (v : Value) (l : List Bool) : Prop := BB w B b v (pack l) l.length

theorem own_not {e t : TypeId} {w : World} {B b : Nat} {v : Value} {l : List UInt8} {cs : Array Value} (h : Own e w B v l) (hb : w.heap[b]? = some (.cells cs t)) (hne : e ≠ t) : v.ownBlock ≠ some b := by
  intro hv
  rcases h.2 with ⟨rfl, -⟩ | ⟨g, cap, cur, rfl, -, hg, -⟩
  · cases hv
  · simp only [Value.ownBlock, Option.some.injEq] at hv
    subst hv
    rw [hb] at hg
    simp only [Option.some.injEq, Obj.cells.injEq] at hg
    exact hne hg.2.1.symm
section
variable {w : World} {B b : Nat} {v : Value} {p : List UInt8} {n : Nat}
theorem BB.lt (h : BB w B b v p n) : b < w.heap.size := (Array.getElem?_eq_some_iff.1 h.blk).1
theorem BB.apart (h : BB w B b v p n) : v.ownBlock ≠ some b := own_not h.row h.blk (by decide)
theorem BB.below {w' : World} (h : BB w B b v p n) (hb : Below w.heap.size w w') : BB w' B b v p n := ⟨(hb.block b h.lt).trans h.blk, h.row.below hb, h.low⟩
theorem BB.mono {B' : Nat} (h : BB w B b v p n) (hB : B' ≤ B) : BB w B' b v p n := ⟨h.blk, h.row.mono hB, Nat.le_trans hB h.low⟩
theorem BB.rows (h : BB w B b v p n) : ∀ k, v.ownBlock = some k → B ≤ k := h.row.row
theorem BB.c0 (h : BB w B b v p n) : w.cell? ⟨b, 0, none⟩ = some v := by rw [cell_of_row w b 0 _ _ _ h.blk]; rfl
theorem BB.c1 (h : BB w B b v p n) : w.cell? ⟨b, 1, none⟩ = some (.int .i64 (n : Int)) := by rw [cell_of_row w b 1 _ _ _ h.blk]; rfl
theorem BB.f (h : BB w B b v p n) (o : Nat) : w.frozen? ⟨b, o, none⟩ = false := frozen_of_row w b o _ _ h.blk
/-- A row that has grown is stored. -/
theorem BB.grown {w' : World} {v' : Value} {q : List UInt8} (h : BB w B b v p n) (hg : w.grownBy w' v.ownBlock) (ho : Own 5 w' B v' q) : BB (w'.setCell ⟨b, 0, none⟩ v') B b v' q n := by
  have h1 : w'.heap[b]? = some (.cells #[v, .int .i64 (n : Int)] 80) := (hg.block b h.lt h.apart.symm).trans h.blk
  refine ⟨by rw [heap_set h1]; rfl, ?_, h.low⟩
  have hno := own_not ho h1 (by decide)
  refine ⟨ho.1, ?_⟩
  rcases ho.2 with h' | ⟨g, cap, cur, e1, hB, e2, e3⟩
  · exact .inl h'
  · refine .inr ⟨g, cap, cur, e1, hB, (Below.heap_setCell _ _ _ _ ?_).trans e2, e3⟩
    rintro rfl
    subst e1
    exact hno rfl
/-- A byte is stored. -/
theorem BB.put {g m cap : Nat} (h : BB w B b (.slice (some ⟨g, 0, none⟩) m cap) p n) (j : Nat) (c : UInt8) (x : Int) (hx : x = (c.toNat : Int)) : BB (w.setCell ⟨g, j, none⟩ (.int .u8 x)) B b (.slice (some ⟨g, 0, none⟩) m cap) (p.set j c) n := by
  refine ⟨(Below.heap_setCell _ _ _ _ ?_).trans h.blk, h.row.store j c x hx, h.low⟩
  rintro rfl
  exact h.apart rfl
/-- The number of bits is stored. -/
theorem BB.count (h : BB w B b v p n) (n' : Nat) (x : Int) (hx : x = (n' : Int)) : BB (w.setCell ⟨b, 1, none⟩ (.int .i64 x)) B b v p n' := by
  subst hx
  refine ⟨by rw [heap_set h.blk]; rfl, ?_, h.low⟩
  have hno := h.apart
  refine ⟨h.row.1, ?_⟩
  rcases h.row.2 with h' | ⟨g, cap, cur, e1, hB, e2, e3⟩
  · exact .inl h'
  · refine .inr ⟨g, cap, cur, e1, hB, (Below.heap_setCell _ _ _ _ ?_).trans e2, e3⟩
    rintro rfl
    subst e1
    exact hno rfl
end
/-- A new one has none. -/
theorem BT.new (w : World) : BT (w.alloc (.cells #[.slice none 0 0, .int .i64 0] 80)) w.heap.size w.heap.size (.slice none 0 0) [] :=
  ⟨heap_alloc_new w _, Own.nil _ _ _, Nat.le_refl _⟩

end Go.Proofs.YthbnecdeebmlhaaGreat

namespace Go.Proofs.YthbnecdeebmlhaaGreat
open Go.RowKit

section
variable {P : Program} (w : World)

theorem run_append_where (base : Nat) (t ty e : TypeId) (i : TypeInfo) (z : Value) (size bytes : Nat) (ht : P.underlying t = some (.slice e)) (hi : P.info? e = some i) (hz : i.zero = some z)
    (hsize : i.size = size) (hby : i.bytes = bytes) (hzs : z.cells.size = size) (hsz : 0 < size)
    (v : Value) (n : Nat) (xs : List Value) (hown : w.ownsRow base e size v n xs)
    (a : Addr) (m c : Nat) (news : List Value) (hl : news.length = m * size) (hnews : ∀ j u, news[j]? = some u → w.cell? (a.add j) = some u) (h1 : ∀ u ∈ news, u.oneCell' = true)
    (h63 : n + m ≤ maxLen) (hbytes : (n + m) * bytes ≤ 140737488355328) (hbase : base ≤ w.heap.size) :
    ∃ v' w', (Builtin.append_ #[t, t] ty #[v, .slice (some a) m c]).run P w = .ok v' w' ∧ w'.ownsRow base e size v' (n + m) (xs ++ news) ∧ w.grownBy w' v.ownBlock ∧
      (v'.ownBlock = v.ownBlock ∨ ∀ k, v'.ownBlock = some k → w.heap.size ≤ k) := by
  obtain ⟨v', w', hr, h2, h3, -⟩ := run_append_own (P := P) w base t ty e i z size bytes ht hi hz hsize hby hzs hsz v n xs hown a m c news hl hnews h1 h63 hbytes hbase
  refine ⟨v', w', hr, h2, h3, ?_⟩
  rcases hown.2 with ⟨rfl, rfl⟩ | ⟨g, cap, cur, rfl, hbg, hg, hnc, hcm, hcs, htake⟩
  · right
    obtain ⟨v2, w2, hr2, k2, -, -⟩ := run_append_own (P := P) w w.heap.size t ty e i z size bytes ht hi hz hsize hby hzs hsz (.slice none 0 0) 0 xs ⟨hown.1, .inl ⟨rfl, rfl⟩⟩ a m c news hl hnews h1 h63 hbytes (Nat.le_refl _)
    rw [hr] at hr2
    cases hr2
    exact fun k hk => (World.ownsRow.lt k2 k hk).1
  · by_cases hroom : n + m ≤ cap
    · left
      obtain ⟨w2, hr2, -, -⟩ := run_append_fits (P := P) w base t ty e i size ht hi hsize g n cap xs hown a m c news hl hnews h1 hroom
      rw [hr] at hr2
      cases hr2
      rfl
    · right
      have hsmall : n + m ≤ 9223372036854775807 := by simp only [maxLen] at h63; omega
      have holds : ∀ j u, xs[j]? = some u → w.cell? ((⟨g, 0, none⟩ : Addr).add j) = some u := hown.cells (g := g) rfl
      subst hsize hby
      have hr2 := run_append_grow (P := P) w t ty e i z ht hi hz ⟨g, 0, none⟩ n cap xs hown.1 holds a m c news hl hnews (by omega) (by omega) (growslice_fits (by omega) hbytes)
      rw [hr] at hr2
      cases hr2
      intro k hk
      simp only [Value.ownBlock, Option.some.injEq] at hk
      omega

theorem wpList_append_where {ops : Array Oper} {rest : List Oper} {o : Oper} {a : Act} {Q : Exit → Act → World → Prop} (hgd : o.guard = none) (s x : Operand) (t : TypeId)
    (ho : o.op = .call { callee := .builtin .append, args := #[s, x], argTypes := #[t, t] })
    (base : Nat) (e : TypeId) (ht : P.underlying t = some (.slice e)) (z : Value) (size bytes : Nat) (hinfo : (P.info? e).map (fun i => (i.zero, i.size, i.bytes)) = some (some z, size, bytes)) (hzs : z.cells.size = size) (hsz : 0 < size)
    (v : Value) (n : Nat) (xs : List Value) (hs : a.eval s = v) (hown : w.ownsRow base e size v n xs)
    (ad : Addr) (m c : Nat) (news : List Value) (hx : a.eval x = .slice (some ad) m c) (hl : news.length = m * size) (hnews : ∀ j u, news[j]? = some u → w.cell? (ad.add j) = some u) (h1 : ∀ u ∈ news, u.oneCell' = true)
    (h63 : n + m ≤ maxLen) (hbytes : (n + m) * bytes ≤ 140737488355328) (hbase : base ≤ w.heap.size)
    (h : ∀ v' w', w'.ownsRow base e size v' (n + m) (xs ++ news) → w.grownBy w' v.ownBlock → (v'.ownBlock = v.ownBlock ∨ ∀ k, v'.ownBlock = some k → w.heap.size ≤ k) → wpList P ops Q rest (a.put o.dst v') w') : wpList P ops Q (o :: rest) a w := by
  obtain ⟨i, hi, hz, hsize, hby⟩ := info_parts hinfo
  obtain ⟨v', w', hr, h2, h3, h4⟩ := run_append_where (P := P) w base t o.type e i z size bytes ht hi hz hsize hby hzs hsz v n xs hown ad m c news hl hnews h1 h63 hbytes hbase
  refine wpList_gives hgd v' w' ?_ (h v' w' h2 h3 h4)
  unfold execOp
  simp only [ho, resolve, invoke, builtin, Sem.run_bind, Sem.run_pure, Result.andThen_ok, List.map_toArray, List.map_cons, List.map_nil, hs, hx, hr]

/-- One byte more. -/
theorem wpList_append_byte {ops : Array Oper} {rest : List Oper} {o : Oper} {a : Act} {Q : Exit → Act → World → Prop} (hgd : o.guard = none) (s x : Operand) (t : TypeId)
    (ho : o.op = .call { callee := .builtin .append, args := #[s, x], argTypes := #[t, t] })
    (B : Nat) (e : TypeId) (ht : P.underlying t = some (.slice e)) (hinfo : (P.info? e).map (fun i => (i.zero, i.size, i.bytes)) = some (some (.int .u8 0), 1, 1))
    (v : Value) (l : List UInt8) (g cap : Nat) (y : UInt8) (hs : a.eval s = v) (hx : a.eval x = .slice (some ⟨g, 0, none⟩) 1 cap) (hown : Own e w B v l) (hy : w.cell? ⟨g, 0, none⟩ = some (.int .u8 (y.toNat : Int)))
    (hlen : l.length < 140737488355328) (hbase : B ≤ w.heap.size)
    (h : ∀ v' w', Own e w' B v' (l ++ [y]) → w.grownBy w' v.ownBlock → (v'.ownBlock = v.ownBlock ∨ ∀ k, v'.ownBlock = some k → w.heap.size ≤ k) → wpList P ops Q rest (a.put o.dst v') w') : wpList P ops Q (o :: rest) a w := by
  refine wpList_append_where w hgd s x t ho B e ht (.int .u8 0) 1 1 hinfo rfl (by decide) v l.length (cells l) hs hown ⟨g, 0, none⟩ 1 cap [.int .u8 (y.toNat : Int)] hx rfl ?_ ?_ (by unfold maxLen; omega) (by omega) hbase ?_
  · intro j u hj
    match j, hj with
    | 0, hj => rw [show (⟨g, 0, none⟩ : Addr).add 0 = ⟨g, 0, none⟩ from rfl, hy]; exact hj
    | j + 1, hj => simp at hj
  · intro u hu
    simp only [List.mem_cons, List.not_mem_nil, or_false] at hu
    subst hu
    rfl
  · intro v' w' h2 h3 h4
    refine h v' w' ?_ h3 h4
    unfold Own
    rw [List.length_append, cells_append]
    exact h2
end

end Go.Proofs.YthbnecdeebmlhaaGreat

namespace Go.Proofs.YthbnecdeebmlhaaGreat
open Go.RowKit

set_option maxRecDepth 100000 in
theorem putNum_nil (x n : Int) (w : World) : Calls Tryz.prog 72 #[.pointer none, .int .u64 x, .int .i64 n] w fun e w' => e = .returned (.tuple #[]) ∧ w = w' := by
  go_enter Tryz.func72, Tryz.ntmps72
  go_wp2
  refine bodyPost_ret (results_none rfl _ _ _) rfl ?_
  exact ⟨rfl, rfl⟩

def V6 (b g rl cap d o x k t kt X c1 t8 c2 um c3 r : Nat) : Nat → World → Value → Prop
  | 40, _, v => v = .pointer (some ⟨b, 0, none⟩)
  | 41, _, v => v = .pointer (some ⟨b, 0, none⟩)
  | 42, _, v => v = .pointer (some ⟨b, 0, none⟩)
  | 43, _, v => v = .slice (some ⟨g, 0, none⟩) rl cap
  | 44, _, v => v = .pointer (some ⟨b, 0, none⟩)
  | 45, _, v => v = .pointer (some ⟨b, 0, none⟩)
  | 46, _, v => v = .pointer (some ⟨b, 0, none⟩)
  | 47, _, v => v = .slice (some ⟨g, 0, none⟩) rl cap
  | 48, _, v => v = .int .i64 ((rl : Nat) : Int)
  | 49, _, v => v = .int .i64 ((d : Nat) : Int)
  | 50, _, v => v = .pointer (some ⟨g, d, none⟩)
  | 51, _, v => v = .int .u8 (o : Int)
  | 52, _, v => v = .int .u64 (x : Int)
  | 53, _, v => v = .int .i64 ((k : Nat) : Int)
  | 54, _, v => v = .int .i64 ((t : Nat) : Int)
  | 55, _, v => v = .int .i64 ((kt : Nat) : Int)
  | 56, _, v => v = .int .u64 (X : Int)
  | 57, _, v => v = .int .u8 (c1 : Int)
  | 58, _, v => v = .int .i64 ((t : Nat) : Int)
  | 59, _, v => v = .int .i64 ((t8 : Nat) : Int)
  | 60, _, v => v = .int .u8 (c2 : Int)
  | 61, _, v => v = .int .i64 ((um : Nat) : Int)
  | 62, _, v => v = .int .u8 (c3 : Int)
  | 63, _, v => v = .int .u8 (r : Int)
  | 64, _, v => v = .pointer (some ⟨g, d, none⟩)
  | _, _, _ => True

theorem V6_below (b g rl cap d o x k t kt X c1 t8 c2 um c3 r : Nat) : ∀ (i : Nat) (w w' : World) (v : Value), V6 b g rl cap d o x k t kt X c1 t8 c2 um c3 r i w v → Below w.heap.size w w' → V6 b g rl cap d o x k t kt X c1 t8 c2 um c3 r i w' v := by
  intro i w w' v h hb
  unfold V6 at h ⊢
  split at h <;> first | exact h | trivial | exact RB.below h hb | exact Own.below h hb

theorem run_idx8 (g n cap j : Nat) (h : j < n) (W : World) : (Instr.indexAt 47 (.slice (some ⟨g, 0, none⟩) n cap) (.int .i64 (j : Int))).run Tryz.prog W = .ok (.pointer (some ⟨g, j, none⟩)) W := by
  obtain ⟨i, hi, -, hsize, -⟩ := info_parts info8
  have he : Tryz.prog.elem 47 = 5 := by kernel_rfl
  have hs : (sizeOf 5).run Tryz.prog W = .ok 1 W := by simp [sizeOf, typeInfo, hi, hsize]
  have hadd : (⟨g, 0, none⟩ : Addr).add j = ⟨g, j, none⟩ := by unfold Addr.add; split <;> simp_all
  rw [run_indexAt_slice W _ _ _ _ _ _ (by rw [he]; exact Tryz.underlying47), if_pos ⟨by omega, by omega⟩, he, hs]
  simp [Result.andThen, hadd]

theorem shr_nat (k yk : IntKind) (x y : Nat) (h : (y : Int) ≤ k.bits) : Op.shift .shr k (x : Int) yk (y : Int) = pure (.int k ((x / 2 ^ y : Nat) : Int)) := by
  rw [shift_shr _ _ _ _ (by omega) h, Int.toNat_natCast]
  simp
theorem shl_nat (k yk : IntKind) (x y : Nat) (h : (y : Int) ≤ k.bits) : Op.shift .shl k (x : Int) yk (y : Int) = pure (.int k (k.wrap ((x * 2 ^ y : Nat) : Int))) := by
  rw [shift_shl _ _ _ _ (by omega) h, Int.toNat_natCast]
  simp
/-- What the walk reckons of a piece. -/
theorem put_nums (o X t u : Nat) (ho : o < 256) (hut : u + t ≤ 8) :
    X % 256 * 2 ^ (8 - t) % 256 / 2 ^ u = X % 2 ^ t * 2 ^ (8 - t) / 2 ^ u ∧ bits .or .u8 (o : Int) ((X % 2 ^ t * 2 ^ (8 - t) / 2 ^ u : Nat) : Int) = ((putByte o (X % 2 ^ t) t u : Nat) : Int) := by
  have e : 256 = 2 ^ t * 2 ^ (8 - t) := by rw [← Nat.pow_add, show t + (8 - t) = 8 from by omega]
  have h1 : X % 256 * 2 ^ (8 - t) % 256 = X % 2 ^ t * 2 ^ (8 - t) := by
    have : X % 256 % 2 ^ t = X % 2 ^ t := by rw [e, Nat.mod_mul_right_mod]
    rw [← this]
    generalize X % 256 = Y
    rw [e, Nat.mul_mod_mul_right]
  refine ⟨by rw [h1], ?_⟩
  have h2 : X % 2 ^ t * 2 ^ (8 - t) / 2 ^ u < 256 := by
    refine Nat.lt_of_le_of_lt (Nat.div_le_self _ _) ?_
    rw [e]
    exact Nat.mul_lt_mul_of_pos_right (Nat.mod_lt _ (Nat.pow_pos (by omega))) (Nat.pow_pos (by omega))
  rw [u8_or_nat _ _ ho h2]
  rfl

/-- A round of PutNum: what it leaves. -/
theorem put_close {w wr wc w6 : World} {B b : Nat} {v u : Value} {g cap : Nat} {m : List Bool} {X t r : Nat} (htwo : Two b v.ownBlock w wr) (hown : u.ownBlock = v.ownBlock ∨ ∀ k, u.ownBlock = some k → w.heap.size ≤ k)
    (htwo2 : Two b u.ownBlock wr wc) (hown2 : (Value.slice (some ⟨g, 0, none⟩) (room m).length cap).ownBlock = u.ownBlock ∨ ∀ k, (Value.slice (some ⟨g, 0, none⟩) (room m).length cap).ownBlock = some k → wr.heap.size ≤ k)
    (hbb : BB wc B b (.slice (some ⟨g, 0, none⟩) (room m).length cap) (room m) m.length) (hb6 : Below wc.heap.size wc w6) (ht0 : 0 < t) (hut : m.length % 8 + t ≤ 8)
    (hr : r = putByte ((room m).getD (m.length / 8) 0).toNat (X % 2 ^ t) t (m.length % 8)) (y : Int) (hy : y = ((m.length + t : Nat) : Int)) :
    ∃ u', BT ((w6.setCell ⟨g, m.length / 8, none⟩ (.int .u8 (r : Int))).setCell ⟨b, 1, none⟩ (.int .i64 y)) B b u' (m ++ numB X t) ∧ Two b v.ownBlock w ((w6.setCell ⟨g, m.length / 8, none⟩ (.int .u8 (r : Int))).setCell ⟨b, 1, none⟩ (.int .i64 y)) ∧
      (u'.ownBlock = v.ownBlock ∨ ∀ k, u'.ownBlock = some k → w.heap.size ≤ k) := by
  have hc : (numB X t).length = t := numB_length X t
  have hlt : r < 256 := by rw [hr]; exact putByte_lt _ _ _ _ (UInt8.toNat_lt _) (Nat.mod_lt _ (Nat.pow_pos (by omega))) (by omega)
  have hpm := pack_more m (numB X t) (by rw [hc]; exact hut) (by rw [hc]; exact ht0)
  rw [hc, val_numB, ← hr] at hpm
  have h1 := ((hbb.below hb6).put (m.length / 8) (UInt8.ofNat r) (r : Int) (by rw [ofNat_val r hlt])).count (m.length + t) y hy
  rw [← hpm] at h1
  have hrow : ∀ j, (Value.slice (some ⟨g, 0, none⟩) (room m).length cap).ownBlock = some j → u.ownBlock = some j ∨ wr.heap.size ≤ j := fun j hj => by
    rcases hown2 with h | h
    · exact .inl (h.symm.trans hj)
    · exact .inr (h j hj)
  have hu : ∀ j, u.ownBlock = some j → v.ownBlock = some j ∨ w.heap.size ≤ j := fun j hj => by
    rcases hown with h | h
    · exact .inl (h.symm.trans hj)
    · exact .inr (h j hj)
  refine ⟨.slice (some ⟨g, 0, none⟩) (room m).length cap, ?_, (((htwo.trans htwo2 hu).trans (Two.of_below (r := none) hb6) (fun j hj => by cases hj)).set (p := ⟨g, m.length / 8, none⟩) ?_ _).set (p := ⟨b, 1, none⟩) (.inl rfl) _, ?_⟩
  · have e : (m ++ numB X t).length = m.length + t := by rw [List.length_append, hc]
    show BB _ _ _ _ _ _
    rw [e]
    exact h1
  · right
    rcases hrow g rfl with h | h
    · rcases hu g h with h' | h'
      · exact .inl h'.symm
      · exact .inr h'
    · exact .inr (Nat.le_trans htwo.size h)
  · rcases hown2 with h | h
    · rcases hown with h' | h'
      · exact .inl (h.trans h')
      · exact .inr fun j hj => h' j (h.symm.trans hj)
    · exact .inr fun j hj => Nat.le_trans htwo.size (h j hj)

set_option maxRecDepth 100000 in
theorem putNum_c (x : Nat) (n : Nat) (w : World) (B b : Nat) (v : Value) (l : List Bool) (h : BT w B b v l) (hn : n ≤ 64) (hl : l.length + n ≤ 562949953421312) :
    Calls Tryz.prog 72 #[.pointer (some ⟨b, 0, none⟩), .int .u64 (x : Int), .int .i64 (n : Int)] w fun e w' => e = .returned (.tuple #[]) ∧
      ∃ v', BT w' B b v' (l ++ numB x n) ∧ Two b v.ownBlock w w' ∧ (v'.ownBlock = v.ownBlock ∨ ∀ k, v'.ownBlock = some k → w.heap.size ≤ k) := by
  go_enter Tryz.func72, Tryz.ntmps72
  go_wp2_with fail
  go_loopw [2] (fun n' wr => ∃ (k : Nat) (m : List Bool) (u : Value), k ≤ n ∧ n' = .int .i64 (k : Int) ∧ m ++ numB x k = l ++ numB x n ∧ BT wr B b u m ∧ Two b v.ownBlock w wr ∧ (u.ownBlock = v.ownBlock ∨ ∀ k, u.ownBlock = some k → w.heap.size ≤ k)) (fun n' _ => (intOf n').toNat)
  case atStart => exact ⟨n, l, v, Nat.le_refl _, rfl, rfl, h, Two.refl _ _ _, .inl rfl⟩
  case round =>
    obtain ⟨k, m, u, hk, rfl, hm, hbt, htwo, hown⟩ := hrel
    by_cases hlt : 0 < k
    · have hc0 := hbt.c0
      have hc1 := hbt.c1
      have hf0 := hbt.f 0
      have hf1 := hbt.f 1
      have hml : m.length ≤ 562949953421312 := by have := congrArg List.length hm; simp only [List.length_append, numB_length] at this; omega
      have Hm := Go.Lib.hid hm; clear hm
      go_upto_if 26 with (fail)
      go_cut [26] (fun s wx => ∃ u2, BB wx B b u2 (room m) m.length ∧ Two b u.ownBlock wr wx ∧ (u2.ownBlock = u.ownBlock ∨ ∀ k, u2.ownBlock = some k → wr.heap.size ≤ k))
      case first =>
        by_cases h0 : m.length % 8 = 0
        · have hbt2 := hbt.below ((Below.refl _ wr).alloc (Nat.le_refl _) (.cells #[.int .u8 0] 5))
          have hx0 : (wr.alloc (.cells #[.int .u8 0] 5)).cell? ⟨wr.heap.size, 0, none⟩ = some (.int .u8 (((0 : UInt8).toNat : Nat) : Int)) := by simp
          have hsz : (wr.alloc (.cells #[.int .u8 0] 5)).heap.size = wr.heap.size + 1 := Array.size_push ..
          have hBle : B ≤ wr.heap.size + 1 := by have := hbt.lt; have := hbt.low; omega
          have hpl : (pack m).length < 140737488355328 := by rw [pack_length]; omega
          rw [← hsz] at hBle
          have Hsz := Go.Lib.hid hsz; clear hsz
          go_wp2_with (first
            | (with_reducible show wpList _ _ _ (⟨some 33, _, _, _, _, _⟩ :: _) _ _; go_must (refine wpList_append_byte _ rfl (.tmp 31) (.tmp 32) 47 rfl B 5 Tryz.underlying47 info8 u (pack m) wr.heap.size 1 0 rfl rfl hbt2.row hx0 hpl hBle ?_); intro u2 w2 hown2 hg2 hw2; obtain ⟨g2, cap2, rfl, -, -, hc1', hc2', -⟩ := hown2.form (by simp); have k0 := hg2.cell (a := ⟨b, 0, none⟩) hbt2.c0 hbt2.apart.symm; have kf : w2.frozen? ⟨b, 0, none⟩ = false := (World.frozen?_of_block (a := ⟨b, 0, none⟩) (hg2.block b hbt2.lt hbt2.apart.symm)).trans (hbt2.f 0))
            | fail)
          go_meet
          rw [show (pack m ++ [(0 : UInt8)]).length = (pack m).length + 1 from by simp] at hown2 hw2
          have hr : room m = pack m ++ [0] := by unfold room; rw [if_pos h0]
          exact ⟨_, by rw [hr]; exact hbt2.grown hg2 hown2, ((Two.of_below ((Below.refl _ wr).alloc (Nat.le_refl _) _)).trans (Two.of_grown hg2) (fun j hj => .inl hj)).set (p := ⟨b, 0, none⟩) (.inl rfl) _, hw2.imp id fun h k hk => Nat.le_trans (by rw [Hsz.out]; omega) (h k hk)⟩
        · go_wp2_with fail
          go_meet
          exact ⟨u, by unfold room; rw [if_neg h0]; exact hbt, Two.refl _ _ _, .inl rfl⟩
      case rest =>
        obtain ⟨u2, hbb, htwo2, hown2⟩ := hcut
        obtain ⟨g, cap, rfl, hBg, hgs, hcl, hcm, hgf⟩ := hbb.row.form (by rw [room_length]; omega)
        rw [room_length] at hcl
        obtain ⟨t, ht⟩ : ∃ t : Nat, t = min k (8 - m.length % 8) := ⟨_, rfl⟩
        have htI : min (k : Int) (8 - (m.length : Int) % 8) = (t : Int) := by omega
        have hc1 := hbb.c1
        have HB := hbb.lt
        have K0 := hbb.c0
        have hdl : m.length / 8 < (room m).length := by rw [room_length]; omega
        have KO := hbb.row.cell (m.length / 8) hdl
        have KF := hbb.row.frozenAt (m.length / 8)
        rw [room_length] at K0
        have ho : (room m)[m.length / 8] = (room m).getD (m.length / 8) 0 := by rw [List.getD_eq_getElem?_getD, List.getElem?_eq_getElem hdl]; rfl
        rw [ho] at KO
        clear ho
        have Ht := Go.Lib.hid ht
        have HK0 := Go.Lib.hid K0; clear K0
        have HKO := Go.Lib.hid KO; clear KO
        have HKF := Go.Lib.hid KF; clear KF
        have HBB := Go.Lib.hid hbb; clear hbb
        have hcap := Go.Lib.hid hcl
        clear hc0 hf0 hf1 ht hcl hcm hgf
        go_upto_region 6 with (fail)
        have hu : (m.length : Int) % 8 = ((m.length % 8 : Nat) : Int) := by omega
        rw [hu]
        clear hu hc1
        have K0 := HK0.out
        have KO := HKO.out
        have K1 := HBB.out.c1
        have F1 := HBB.out.f 1
        have hix := run_idx8 g (m.length / 8 + 1) cap (m.length / 8) (by omega)
        have ht0 : 0 < t ∧ m.length % 8 + t ≤ 8 ∧ t ≤ k ∧ t ≤ 8 := by have := Ht.out; omega
        obtain ⟨ht0, hut, htk, ht8'⟩ := ht0
        have hd1 : IntKind.i64.wrap (((m.length / 8 + 1 : Nat) : Int) - 1) = ((m.length / 8 : Nat) : Int) := by rw [IntKind.wrap_i64]; omega
        obtain ⟨kt, ekt⟩ : ∃ q : Nat, q = k - t := ⟨_, rfl⟩
        obtain ⟨t8, et8⟩ : ∃ q : Nat, q = 8 - t := ⟨_, rfl⟩
        have hkt : IntKind.i64.wrap ((k : Int) - (t : Int)) = (kt : Int) := by rw [IntKind.wrap_i64]; omega
        have ht8 : IntKind.i64.wrap (8 - (t : Int)) = (t8 : Int) := by rw [IntKind.wrap_i64]; omega
        have hX := shr_nat .u64 .i64 x kt (by show _ ≤ (64 : Int); omega)
        obtain ⟨X, eX⟩ : ∃ q : Nat, q = x / 2 ^ kt := ⟨_, rfl⟩
        obtain ⟨c1, ec1⟩ : ∃ q : Nat, q = X % 256 := ⟨_, rfl⟩
        have hc1 : IntKind.u8.wrap (X : Int) = (c1 : Int) := by rw [IntKind.wrap_u8']; omega
        have hc2 := shl_nat .u8 .i64 c1 t8 (by show _ ≤ (8 : Int); omega)
        obtain ⟨c2, ec2⟩ : ∃ q : Nat, q = c1 * 2 ^ t8 % 256 := ⟨_, rfl⟩
        have hc2' : IntKind.u8.wrap ((c1 * 2 ^ t8 : Nat) : Int) = (c2 : Int) := by rw [IntKind.wrap_u8']; omega
        rw [hc2'] at hc2
        obtain ⟨n1, n2⟩ := put_nums ((room m).getD (m.length / 8) 0).toNat X t (m.length % 8) (UInt8.toNat_lt _) hut
        rw [← et8, ← ec1, ← ec2] at n1
        rw [← et8, ← n1] at n2
        rw [← eX] at hX
        obtain ⟨c3, ec3⟩ : ∃ q : Nat, q = c2 / 2 ^ (m.length % 8) := ⟨_, rfl⟩
        have hc3i : (c2 : Int) / 2 ^ (m.length % 8) = (c3 : Int) := by rw [ec3]; simp
        rw [← ec3] at n2
        have hr := n2
        obtain ⟨r, er⟩ : ∃ q : Nat, q = putByte ((room m).getD (m.length / 8) 0).toNat (X % 2 ^ t) t (m.length % 8) := ⟨_, rfl⟩
        rw [← er] at hr
        have Er := Go.Lib.hid er
        have EX := Go.Lib.hid eX
        have Ekt := Go.Lib.hid ekt
        clear n1 n2 er ec3 hc2' ec2 ec1 eX et8 ekt
        have Er2 := Er
        generalize ((room m).getD (m.length / 8) 0).toNat = o at KO hr Er
        clear Er
        generalize hd : m.length / 8 = d at *
        generalize hu : m.length % 8 = um at *
        have Hd := Go.Lib.hid hd
        have Hu := Go.Lib.hid hu
        clear hd hu
        generalize d + 1 = rl at *
        have hmt : (m.length : Int) + (t : Int) = ((m.length + t : Nat) : Int) := by omega
        have Hmt := Go.Lib.hid hmt; clear hmt
        refine wp_region_head 25 (by decide) (by kernel_rfl) (V6 b g rl cap d o x k t kt X c1 t8 c2 um c3 r) (V6_below b g rl cap d o x k t kt X c1 t8 c2 um c3 r) (by decide +kernel) (by rfl) [40, 41, 42, 43, 44, 45, 46, 47, 48, 49, 50, 51, 52, 53, 54, 55, 56, 57, 58, 59, 60, 61, 62, 63, 64] (by rfl) ?_ ?_
        · intro i o hin ho a w6 hb6 hlen hg
          have k0 := (hb6.cell (p := ⟨b, 0, none⟩) HB).trans K0
          have ko := (hb6.cell (p := ⟨g, d, none⟩) hgs).trans KO
          match i, hin, ho with
          | 0, hin, ho =>
            obtain rfl := Option.some.inj ho
            have h0 := given_old hg 0 (by decide +kernel)
            clear hg
            exact st_yield ho (wanted_none rfl) (.pointer (some ⟨b, 0, none⟩)) w6 (by simp [execOp, Act.eval, h0, go_sem]) ⟨_, rfl, Below.refl _ _, by rintro t' ⟨⟩; rfl⟩
          | 1, hin, ho =>
            obtain rfl := Option.some.inj ho
            obtain ⟨_, h40, rfl⟩ := given_fed hg 40 (by decide +kernel)
            clear hg
            exact st_yield ho (wanted_none rfl) (.pointer (some ⟨b, 0, none⟩)) w6 (by simp [execOp, Act.eval, h40, go_sem]) ⟨_, rfl, Below.refl _ _, by rintro t' ⟨⟩; rfl⟩
          | 2, hin, ho =>
            obtain rfl := Option.some.inj ho
            obtain ⟨_, h41, rfl⟩ := given_fed hg 41 (by decide +kernel)
            clear hg
            exact st_yield ho (wanted_none rfl) (.pointer (some ⟨b, 0, none⟩)) w6 (by simp [execOp, Act.eval, h41, go_sem]) ⟨_, rfl, Below.refl _ _, by rintro t' ⟨⟩; rfl⟩
          | 3, hin, ho =>
            obtain rfl := Option.some.inj ho
            obtain ⟨_, h42, rfl⟩ := given_fed hg 42 (by decide +kernel)
            clear hg
            exact st_yield ho (wanted_none rfl) (.slice (some ⟨g, 0, none⟩) rl cap) w6 (by simp [execOp, Act.eval, h42, go_sem, k0]) ⟨_, rfl, Below.refl _ _, by rintro t' ⟨⟩; rfl⟩
          | 4, hin, ho =>
            obtain rfl := Option.some.inj ho
            have h0 := given_old hg 0 (by decide +kernel)
            clear hg
            exact st_yield ho (wanted_none rfl) (.pointer (some ⟨b, 0, none⟩)) w6 (by simp [execOp, Act.eval, h0, go_sem]) ⟨_, rfl, Below.refl _ _, by rintro t' ⟨⟩; rfl⟩
          | 5, hin, ho =>
            obtain rfl := Option.some.inj ho
            obtain ⟨_, h44, rfl⟩ := given_fed hg 44 (by decide +kernel)
            clear hg
            exact st_yield ho (wanted_none rfl) (.pointer (some ⟨b, 0, none⟩)) w6 (by simp [execOp, Act.eval, h44, go_sem]) ⟨_, rfl, Below.refl _ _, by rintro t' ⟨⟩; rfl⟩
          | 6, hin, ho =>
            obtain rfl := Option.some.inj ho
            obtain ⟨_, h45, rfl⟩ := given_fed hg 45 (by decide +kernel)
            clear hg
            exact st_yield ho (wanted_none rfl) (.pointer (some ⟨b, 0, none⟩)) w6 (by simp [execOp, Act.eval, h45, go_sem]) ⟨_, rfl, Below.refl _ _, by rintro t' ⟨⟩; rfl⟩
          | 7, hin, ho =>
            obtain rfl := Option.some.inj ho
            obtain ⟨_, h46, rfl⟩ := given_fed hg 46 (by decide +kernel)
            clear hg
            exact st_yield ho (wanted_none rfl) (.slice (some ⟨g, 0, none⟩) rl cap) w6 (by simp [execOp, Act.eval, h46, go_sem, k0]) ⟨_, rfl, Below.refl _ _, by rintro t' ⟨⟩; rfl⟩
          | 8, hin, ho =>
            obtain rfl := Option.some.inj ho
            obtain ⟨_, h47, rfl⟩ := given_fed hg 47 (by decide +kernel)
            clear hg
            exact st_yield ho (wanted_none rfl) (.int .i64 ((rl : Nat) : Int)) w6 (by simp [execOp, Act.eval, h47, go_sem, resolve, invoke, builtin]) ⟨_, rfl, Below.refl _ _, by rintro t' ⟨⟩; rfl⟩
          | 9, hin, ho =>
            obtain rfl := Option.some.inj ho
            obtain ⟨_, h48, rfl⟩ := given_fed hg 48 (by decide +kernel)
            clear hg
            exact st_yield ho (wanted_none rfl) (.int .i64 ((d : Nat) : Int)) w6 (by simp [execOp, Act.eval, h48, go_sem, hd1]) ⟨_, rfl, Below.refl _ _, by rintro t' ⟨⟩; rfl⟩
          | 10, hin, ho =>
            obtain rfl := Option.some.inj ho
            obtain ⟨_, h43, rfl⟩ := given_fed hg 43 (by decide +kernel)
            obtain ⟨_, h49, rfl⟩ := given_fed hg 49 (by decide +kernel)
            clear hg
            exact st_yield ho (wanted_none rfl) (.pointer (some ⟨g, d, none⟩)) w6 (by simp [execOp, Act.eval, h43, h49, go_sem, hix]) ⟨_, rfl, Below.refl _ _, by rintro t' ⟨⟩; rfl⟩
          | 11, hin, ho =>
            obtain rfl := Option.some.inj ho
            obtain ⟨_, h50, rfl⟩ := given_fed hg 50 (by decide +kernel)
            clear hg
            exact st_yield ho (wanted_none rfl) (.int .u8 (o : Int)) w6 (by simp [execOp, Act.eval, h50, go_sem, ko]) ⟨_, rfl, Below.refl _ _, by rintro t' ⟨⟩; rfl⟩
          | 12, hin, ho =>
            obtain rfl := Option.some.inj ho
            have h1 := given_old hg 1 (by decide +kernel)
            clear hg
            exact st_yield ho (wanted_none rfl) (.int .u64 (x : Int)) w6 (by simp [execOp, Act.eval, h1, go_sem]) ⟨_, rfl, Below.refl _ _, by rintro t' ⟨⟩; rfl⟩
          | 13, hin, ho =>
            obtain rfl := Option.some.inj ho
            have h2 := given_old hg 2 (by decide +kernel)
            clear hg
            exact st_yield ho (wanted_none rfl) (.int .i64 ((k : Nat) : Int)) w6 (by simp [execOp, Act.eval, h2, go_sem]) ⟨_, rfl, Below.refl _ _, by rintro t' ⟨⟩; rfl⟩
          | 14, hin, ho =>
            obtain rfl := Option.some.inj ho
            have h7 := given_old hg 7 (by decide +kernel)
            clear hg
            exact st_yield ho (wanted_none rfl) (.int .i64 ((t : Nat) : Int)) w6 (by simp [execOp, Act.eval, h7, go_sem]) ⟨_, rfl, Below.refl _ _, by rintro t' ⟨⟩; rfl⟩
          | 15, hin, ho =>
            obtain rfl := Option.some.inj ho
            obtain ⟨_, h53, rfl⟩ := given_fed hg 53 (by decide +kernel)
            obtain ⟨_, h54, rfl⟩ := given_fed hg 54 (by decide +kernel)
            clear hg
            exact st_yield ho (wanted_none rfl) (.int .i64 ((kt : Nat) : Int)) w6 (by simp [execOp, Act.eval, h53, h54, go_sem, hkt]) ⟨_, rfl, Below.refl _ _, by rintro t' ⟨⟩; rfl⟩
          | 16, hin, ho =>
            obtain rfl := Option.some.inj ho
            obtain ⟨_, h52, rfl⟩ := given_fed hg 52 (by decide +kernel)
            obtain ⟨_, h55, rfl⟩ := given_fed hg 55 (by decide +kernel)
            clear hg
            exact st_yield ho (wanted_none rfl) (.int .u64 (X : Int)) w6 (by simp [execOp, Act.eval, h52, h55, go_sem, hX]) ⟨_, rfl, Below.refl _ _, by rintro t' ⟨⟩; rfl⟩
          | 17, hin, ho =>
            obtain rfl := Option.some.inj ho
            obtain ⟨_, h56, rfl⟩ := given_fed hg 56 (by decide +kernel)
            clear hg
            exact st_yield ho (wanted_none rfl) (.int .u8 (c1 : Int)) w6 (by simp [execOp, Act.eval, h56, go_sem, hc1]) ⟨_, rfl, Below.refl _ _, by rintro t' ⟨⟩; rfl⟩
          | 18, hin, ho =>
            obtain rfl := Option.some.inj ho
            have h7 := given_old hg 7 (by decide +kernel)
            clear hg
            exact st_yield ho (wanted_none rfl) (.int .i64 ((t : Nat) : Int)) w6 (by simp [execOp, Act.eval, h7, go_sem]) ⟨_, rfl, Below.refl _ _, by rintro t' ⟨⟩; rfl⟩
          | 19, hin, ho =>
            obtain rfl := Option.some.inj ho
            obtain ⟨_, h58, rfl⟩ := given_fed hg 58 (by decide +kernel)
            clear hg
            exact st_yield ho (wanted_none rfl) (.int .i64 ((t8 : Nat) : Int)) w6 (by simp [execOp, Act.eval, h58, go_sem, ht8]) ⟨_, rfl, Below.refl _ _, by rintro t' ⟨⟩; rfl⟩
          | 20, hin, ho =>
            obtain rfl := Option.some.inj ho
            obtain ⟨_, h57, rfl⟩ := given_fed hg 57 (by decide +kernel)
            obtain ⟨_, h59, rfl⟩ := given_fed hg 59 (by decide +kernel)
            clear hg
            exact st_yield ho (wanted_none rfl) (.int .u8 (c2 : Int)) w6 (by simp [execOp, Act.eval, h57, h59, go_sem, hc2]) ⟨_, rfl, Below.refl _ _, by rintro t' ⟨⟩; rfl⟩
          | 21, hin, ho =>
            obtain rfl := Option.some.inj ho
            have h6 := given_old hg 6 (by decide +kernel)
            clear hg
            exact st_yield ho (wanted_none rfl) (.int .i64 ((um : Nat) : Int)) w6 (by simp [execOp, Act.eval, h6, go_sem]) ⟨_, rfl, Below.refl _ _, by rintro t' ⟨⟩; rfl⟩
          | 22, hin, ho =>
            obtain rfl := Option.some.inj ho
            obtain ⟨_, h60, rfl⟩ := given_fed hg 60 (by decide +kernel)
            obtain ⟨_, h61, rfl⟩ := given_fed hg 61 (by decide +kernel)
            clear hg
            exact st_yield ho (wanted_none rfl) (.int .u8 (c3 : Int)) w6 (by simp [execOp, Act.eval, h60, h61, go_sem, hc3i]) ⟨_, rfl, Below.refl _ _, by rintro t' ⟨⟩; rfl⟩
          | 23, hin, ho =>
            obtain rfl := Option.some.inj ho
            obtain ⟨_, h51, rfl⟩ := given_fed hg 51 (by decide +kernel)
            obtain ⟨_, h62, rfl⟩ := given_fed hg 62 (by decide +kernel)
            clear hg
            exact st_yield ho (wanted_none rfl) (.int .u8 (r : Int)) w6 (by simp [execOp, Act.eval, h51, h62, go_sem, hr]) ⟨_, rfl, Below.refl _ _, by rintro t' ⟨⟩; rfl⟩
          | 24, hin, ho =>
            obtain rfl := Option.some.inj ho
            obtain ⟨_, h43, rfl⟩ := given_fed hg 43 (by decide +kernel)
            obtain ⟨_, h49, rfl⟩ := given_fed hg 49 (by decide +kernel)
            clear hg
            exact st_yield ho (wanted_none rfl) (.pointer (some ⟨g, d, none⟩)) w6 (by simp [execOp, Act.eval, h43, h49, go_sem, hix]) ⟨_, rfl, Below.refl _ _, by rintro t' ⟨⟩; rfl⟩
          | n + 25, hin, ho => omega
        · intro f w6 hb6 hv
          have h63 := hv 63 (by decide)
          have h64 := hv 64 (by decide)
          simp only [V6] at h63 h64
          have ko := (hb6.cell (p := ⟨g, d, none⟩) hgs).trans KO
          have kf := (hb6.frozen (p := ⟨g, d, none⟩) hgs).trans HKF.out
          have hne : g ≠ b := fun e => HBB.out.apart (by rw [e]; rfl)
          have kc1 : (w6.setCell ⟨g, d, none⟩ (.int .u8 (r : Int))).cell? ⟨b, 1, none⟩ = some (.int .i64 (m.length : Int)) := by
            rw [World.cell?_setCell_other _ _ _ _ (fun e => hne (congrArg Addr.block e))]
            exact (hb6.cell (p := ⟨b, 1, none⟩) HB).trans K1
          have kf1 : (w6.setCell ⟨g, d, none⟩ (.int .u8 (r : Int))).frozen? ⟨b, 1, none⟩ = false := by
            rw [World.frozen?_setCell]
            exact (hb6.frozen (p := ⟨b, 1, none⟩) HB).trans F1
          have hfin := put_close (X := X) (t := t) (r := r) htwo hown htwo2 hown2 HBB.out hb6 ht0 (by rw [Hu.out]; exact hut) (by rw [Er2.out, Hu.out, Hd.out]) _ Hmt.out
          rw [Hd.out] at hfin
          have Hfin := Go.Lib.hid hfin; clear hfin htwo hown htwo2 hown2 hbt
          clear hv K0 KO K1 F1 hr hc3i hc2 hc1 hX ht8 hd1 hix hne
          unfold putAll
          simp only [List.foldl, List.drop]
          simp only [h63, h64]
          go_simp
          go_wp2_with fail
          obtain ⟨u', h1, h2, h3⟩ := Hfin.out
          have hkk := Ekt.out
          have hxx := EX.out
          refine ⟨⟨kt, m ++ numB X t, u', by omega, rfl, ?_, h1, h2, h3⟩, by simp only [intOf]; omega⟩
          rw [List.append_assoc, hxx, hkk, ← numB_take x k t htk]
          exact Hm.out
    · obtain rfl : k = 0 := by omega
      rw [show numB x 0 = [] from rfl, List.append_nil] at hm
      have Hfin : Hid (∃ v', BT wr B b v' (l ++ numB x n) ∧ Two b v.ownBlock w wr ∧ (v'.ownBlock = v.ownBlock ∨ ∀ k, v'.ownBlock = some k → w.heap.size ≤ k)) := ⟨u, by rw [← hm]; exact hbt, htwo, hown⟩
      clear hm hbt htwo hown
      go_wp2_with fail
      go_end0
      exact ⟨rfl, Hfin.out⟩

end Go.Proofs.YthbnecdeebmlhaaGreat

namespace Go.Proofs.YthbnecdeebmlhaaGreat
open Go.RowKit

set_option maxRecDepth 100000 in
theorem put_nil (t : Bool) (w : World) : Calls Tryz.prog 43 #[.pointer none, .bool t] w fun e w' => e = .returned (.tuple #[]) ∧ w = w' := by
  cases t
  all_goals
    go_enter Tryz.func43, Tryz.ntmps43
    go_wp2_with fail
    refine (putNum_nil _ _ _).mono ?_
    rintro e w1 ⟨rfl, rfl⟩
    go_wp2_with fail
    go_end0
    exact ⟨rfl, rfl⟩
set_option maxRecDepth 100000 in
theorem bitput_c (t : Bool) (w : World) (B b : Nat) (v : Value) (l : List Bool) (h : BT w B b v l) (hl : l.length + 1 ≤ 562949953421312) :
    Calls Tryz.prog 43 #[.pointer (some ⟨b, 0, none⟩), .bool t] w fun e w' => e = .returned (.tuple #[]) ∧
      ∃ v', BT w' B b v' (l ++ [t]) ∧ Two b v.ownBlock w w' ∧ (v'.ownBlock = v.ownBlock ∨ ∀ k, v'.ownBlock = some k → w.heap.size ≤ k) := by
  have C0 := putNum_c (if t then 1 else 0) 1 w B b v l h (by omega) hl
  have e1 : numB (if t then 1 else 0) 1 = [t] := by cases t <;> rfl
  rw [e1] at C0
  cases t
  all_goals
    have C := Go.Lib.hid C0
    clear C0 e1
    go_enter Tryz.func43, Tryz.ntmps43
    go_wp2_with fail
    refine C.out.mono ?_
    rintro e w1 ⟨rfl, h1⟩
    have H1 := Go.Lib.hid h1
    clear h1 C
    go_wp2_with fail
    go_end0
    exact ⟨rfl, H1.out⟩

set_option maxRecDepth 100000 in
theorem len_c (w : World) (B b : Nat) (v : Value) (p : List UInt8) (n : Nat) (h : BB w B b v p n) : Calls Tryz.prog 74 #[.pointer (some ⟨b, 0, none⟩)] w fun e w' => e = .returned (.int .i64 (n : Int)) ∧ w = w' := by
  have hc1 := h.c1
  clear h
  go_enter Tryz.func74, Tryz.ntmps74
  go_wp2_with fail
  go_ret
  exact ⟨rfl, rfl⟩

set_option maxRecDepth 100000 in
/-- They are not all there. -/
theorem num_no (a n : Int) (w : World) (B b : Nat) (v : Value) (l : List Bool) (h : BT w B b v l) (hl : l.length ≤ 562949953421312) (hno : n < 0 ∨ 64 < n ∨ a < 0 ∨ (l.length : Int) - n < a) :
    Calls Tryz.prog 75 #[.pointer (some ⟨b, 0, none⟩), .int .i64 a, .int .i64 n] w fun e w' => e = .returned (.tuple #[.int .u64 0, .bool false]) ∧ w = w' := by
  have hc1 := h.c1
  clear h
  by_cases h1 : n < 0
  · go_enter Tryz.func75, Tryz.ntmps75
    go_wp2_with fail
    go_ret2
    exact ⟨rfl, rfl⟩
  by_cases h2 : 64 < n
  · go_enter Tryz.func75, Tryz.ntmps75
    go_wp2_with fail
    go_ret2
    exact ⟨rfl, rfl⟩
  by_cases h3 : a < 0
  · go_enter Tryz.func75, Tryz.ntmps75
    go_wp2_with fail
    go_ret2
    exact ⟨rfl, rfl⟩
  have h4 : (l.length : Int) - n < a := by omega
  clear hno
  go_enter Tryz.func75, Tryz.ntmps75
  go_wp2_with fail
  go_ret2
  exact ⟨rfl, rfl⟩

def V7 (b g rl cap d o t um t8 at_ X0 X1 c1 c2 X2 : Nat) : Nat → World → Value → Prop
  | 43, _, v => v = .int .u64 (X0 : Int)
  | 44, _, v => v = .int .i64 (t : Int)
  | 45, _, v => v = .int .u64 (X1 : Int)
  | 46, _, v => v = .pointer (some ⟨b, 0, none⟩)
  | 47, _, v => v = .pointer (some ⟨b, 0, none⟩)
  | 48, _, v => v = .pointer (some ⟨b, 0, none⟩)
  | 49, _, v => v = .slice (some ⟨g, 0, none⟩) rl cap
  | 50, _, v => v = .int .i64 (at_ : Int)
  | 51, _, v => v = .int .i64 (d : Int)
  | 52, _, v => v = .pointer (some ⟨g, d, none⟩)
  | 53, _, v => v = .int .u8 (o : Int)
  | 54, _, v => v = .int .i64 (um : Int)
  | 55, _, v => v = .int .u8 (c1 : Int)
  | 56, _, v => v = .int .i64 (t : Int)
  | 57, _, v => v = .int .i64 (t8 : Int)
  | 58, _, v => v = .int .u8 (c2 : Int)
  | 59, _, v => v = .int .u64 (c2 : Int)
  | 60, _, v => v = .int .u64 (X2 : Int)
  | 8, _, v => v = .int .u64 (X2 : Int)
  | _, _, _ => True

theorem V7_below (b g rl cap d o t um t8 at_ X0 X1 c1 c2 X2 : Nat) : ∀ (i : Nat) (w w' : World) (v : Value), V7 b g rl cap d o t um t8 at_ X0 X1 c1 c2 X2 i w v → Below w.heap.size w w' → V7 b g rl cap d o t um t8 at_ X0 X1 c1 c2 X2 i w' v := by
  intro i w w' v h hb
  unfold V7 at h ⊢
  split at h <;> first | exact h | trivial | exact RB.below h hb | exact Own.below h hb

set_option maxHeartbeats 2000000 in
set_option maxRecDepth 100000 in
theorem num_c (a n : Nat) (w : World) (B b : Nat) (v : Value) (l : List Bool) (h : BT w B b v l) (hl : l.length ≤ 562949953421312) (hn : n ≤ 64) (ha : a + n ≤ l.length) :
    Calls Tryz.prog 75 #[.pointer (some ⟨b, 0, none⟩), .int .i64 (a : Int), .int .i64 (n : Int)] w fun e w' => e = .returned (.tuple #[.int .u64 (val ((l.drop a).take n) : Int), .bool true]) ∧ Below w.heap.size w w' := by
  have hc1 := h.c1
  have h4 : ¬ ((l.length : Int) - (n : Int) < (a : Int)) := by omega
  have H := Go.Lib.hid h
  clear h
  go_enter Tryz.func75, Tryz.ntmps75
  go_wp2_with fail
  go_loopw [1, 2, 8] (fun a' n' x wr => ∃ (j k : Nat), j + k = n ∧ a' = .int .i64 ((a + j : Nat) : Int) ∧ n' = .int .i64 (k : Int) ∧ x = .int .u64 (val ((l.drop a).take j) : Int) ∧ Below w.heap.size w wr) (fun _ n' _ _ => (intOf n').toNat)
  case atStart => exact ⟨0, n, by omega, rfl, rfl, rfl, Below.refl _ _⟩
  case round =>
    obtain ⟨j, k, hjk, rfl, rfl, rfl, hbw⟩ := hrel
    by_cases hlt : 0 < k
    · have hbt : BT wr B b v l := H.out.below hbw
      have hpl : 0 < (pack l).length := by rw [pack_length]; omega
      obtain ⟨g, cap, rfl, hBg, hgs, hcl, hcm, hgf⟩ := hbt.row.form hpl
      obtain ⟨t, ht⟩ : ∃ t : Nat, t = min k (8 - (a + j) % 8) := ⟨_, rfl⟩
      obtain ⟨at_, hat⟩ : ∃ q : Nat, q = a + j := ⟨_, rfl⟩
      have hd : at_ / 8 < (pack l).length := by rw [pack_length]; omega
      have HB := hbt.lt
      have HG := hgs
      have K0 := hbt.c0
      have KO := hbt.row.cell (at_ / 8) hd
      rw [← hat] at ht ⊢
      have htI : min (k : Int) (8 - (at_ : Int) % 8) = (t : Int) := by omega
      have Ht := Go.Lib.hid ht; clear ht
      have Hat := Go.Lib.hid hat; clear hat
      have HK0 := Go.Lib.hid K0; clear K0
      have HKO := Go.Lib.hid KO; clear KO
      have Hjk := Go.Lib.hid hjk; clear hjk
      have hat63 : at_ ≤ 562949953421312 := by have := Hat.out; have := Hjk.out; omega
      clear hbt hcl hcm hgf hpl
      generalize hx0 : val ((l.drop a).take j) = X0
      have Hx0 := Go.Lib.hid hx0; clear hx0
      go_upto_region 7 with (fail)
      have hu : (at_ : Int) % 8 = ((at_ % 8 : Nat) : Int) := by omega
      rw [hu]
      clear hu hc1
      have K0 := HK0.out
      have KO := HKO.out
      have hix := run_idx8 g (pack l).length cap (at_ / 8) hd
      have ht0 : 0 < t ∧ at_ % 8 + t ≤ 8 ∧ t ≤ k ∧ t ≤ 8 := by have := Ht.out; omega
      obtain ⟨ht0, hut, htk, ht8'⟩ := ht0
      obtain ⟨t8, et8⟩ : ∃ q : Nat, q = 8 - t := ⟨_, rfl⟩
      have ht8 : IntKind.i64.wrap (8 - (t : Int)) = (t8 : Int) := by rw [IntKind.wrap_i64]; omega
      have hpiece := pack_piece l at_ t hut (by have := Hat.out; have := Hjk.out; omega) ht0 hd
      have hval : val ((l.drop a).take (j + t)) = X0 * 2 ^ t + val ((l.drop at_).take t) := by
        have hA := Hat.out
        have hJ := Hjk.out
        have hl1 : ((l.drop (a + j)).take t).length = t := by simp only [List.length_take, List.length_drop]; omega
        rw [← take_more, val_append, Hx0.out, hl1, ← hA]
      have hlt0 : X0 < 2 ^ j := by
        have h1 := val_lt ((l.drop a).take j)
        rw [Hx0.out] at h1
        exact Nat.lt_of_lt_of_le h1 (Nat.pow_le_pow_right (by omega) (by simp only [List.length_take]; omega))
      have hc2l := val_lt ((l.drop at_).take t)
      have hc2t : ((l.drop at_).take t).length ≤ t := by simp only [List.length_take]; omega
      obtain ⟨c2, ec2⟩ : ∃ q : Nat, q = val ((l.drop at_).take t) := ⟨_, rfl⟩
      have hc2u : c2 < 2 ^ t := by rw [ec2]; exact Nat.lt_of_lt_of_le hc2l (Nat.pow_le_pow_right (by omega) hc2t)
      obtain ⟨X1, eX1⟩ : ∃ q : Nat, q = X0 * 2 ^ t := ⟨_, rfl⟩
      have hX1 : X1 < 18446744073709551616 := by
        have h1 : X1 < 2 ^ j * 2 ^ t := by rw [eX1]; exact Nat.mul_lt_mul_of_pos_right hlt0 (Nat.pow_pos (by omega))
        rw [← Nat.pow_add] at h1
        exact Nat.lt_of_lt_of_le h1 (Nat.le_trans (Nat.pow_le_pow_right (by omega) (show j + t ≤ 64 by have := Hjk.out; omega)) (by decide))
      have hX2 : X1 ||| c2 = val ((l.drop a).take (j + t)) := by rw [hval, eX1, or_val _ _ _ hc2u, ec2]
      have hc2b : c2 < 18446744073709551616 := Nat.lt_of_lt_of_le hc2u (Nat.le_trans (Nat.pow_le_pow_right (by omega) (show t ≤ 64 by omega)) (by decide))
      have hr := u64_or_nat X1 c2 hX1 hc2b
      rw [hX2] at hr
      have hx1 : IntKind.u64.wrap ((X0 : Int) * 2 ^ t) = (X1 : Int) := by
        have e : (X0 : Int) * 2 ^ t = (X1 : Int) := by rw [eX1]; simp
        rw [e, IntKind.wrap_u64]
        omega
      have hcv : IntKind.u64.wrap (c2 : Int) = (c2 : Int) := by rw [IntKind.wrap_u64]; omega
      rw [← et8, ← ec2] at hpiece
      have hq : (at_ : Int) / 8 = ((at_ / 8 : Nat) : Int) := by omega
      have hqw : IntKind.i64.wrap ((at_ / 8 : Nat) : Int) = ((at_ / 8 : Nat) : Int) := by rw [IntKind.wrap_i64]; omega
      have ho : (pack l)[at_ / 8].toNat < 256 := UInt8.toNat_lt _
      generalize (pack l)[at_ / 8].toNat = o at KO hpiece ho
      obtain ⟨c1, ec1⟩ : ∃ q : Nat, q = o * 2 ^ (at_ % 8) % 256 := ⟨_, rfl⟩
      rw [← ec1] at hpiece
      have hc1 : IntKind.u8.wrap ((o : Int) * 2 ^ (at_ % 8)) = (c1 : Int) := by
        have e : (o : Int) * 2 ^ (at_ % 8) = ((o * 2 ^ (at_ % 8) : Nat) : Int) := by simp
        rw [e, IntKind.wrap_u8', ec1]
        omega
      have hc2i : (c1 : Int) / 2 ^ min t8 8 = (c2 : Int) := by rw [Nat.min_eq_left (by omega), ← hpiece]; simp
      obtain ⟨X2, eX2⟩ : ∃ q : Nat, q = val ((l.drop a).take (j + t)) := ⟨_, rfl⟩
      rw [← eX2] at hr
      have EX2 := Go.Lib.hid eX2
      clear eX2 hpiece ec1 ho hX2 hc2b hX1 eX1 hc2u ec2 hc2t hc2l hlt0 hval et8 hat63
      generalize at_ / 8 = d at *
      generalize at_ % 8 = um at *
      clear HKO HK0
      generalize (pack l).length = rl at K0 hix
      refine wp_region_each (by kernel_rfl) (V7 b g rl cap d o t um t8 at_ X0 X1 c1 c2 X2) (V7_below b g rl cap d o t um t8 at_ X0 X1 c1 c2 X2) (by decide +kernel) (by decide +kernel) (by rfl) [43, 44, 45, 46, 47, 48, 49, 50, 51, 52, 53, 54, 55, 56, 57, 58, 59, 60, 8] (by rfl) ?_ ?_
      · intro i o ho a w6 hb6 hlen hg
        have k0 := (hb6.cell (p := ⟨b, 0, none⟩) HB).trans K0
        have ko := (hb6.cell (p := ⟨g, d, none⟩) HG).trans KO
        match i, ho with
        | 0, ho =>
          obtain rfl := Option.some.inj ho
          have h8 := given_old hg 8 (by decide +kernel)
          clear hg
          exact st_yield ho (wanted_none rfl) (.int .u64 (X0 : Int)) w6 (by simp [execOp, Act.eval, h8, go_sem]) ⟨_, rfl, Below.refl _ _, by rintro t' ⟨⟩; rfl⟩
        | 1, ho =>
          obtain rfl := Option.some.inj ho
          have h10 := given_old hg 10 (by decide +kernel)
          clear hg
          exact st_yield ho (wanted_none rfl) (.int .i64 (t : Int)) w6 (by simp [execOp, Act.eval, h10, go_sem]) ⟨_, rfl, Below.refl _ _, by rintro t' ⟨⟩; rfl⟩
        | 2, ho =>
          obtain rfl := Option.some.inj ho
          obtain ⟨_, h43, rfl⟩ := given_fed hg 43 (by decide +kernel)
          obtain ⟨_, h44, rfl⟩ := given_fed hg 44 (by decide +kernel)
          clear hg
          exact st_yield ho (wanted_none rfl) (.int .u64 (X1 : Int)) w6 (by simp [execOp, Act.eval, h43, h44, go_sem, hx1]) ⟨_, rfl, Below.refl _ _, by rintro t' ⟨⟩; rfl⟩
        | 3, ho =>
          obtain rfl := Option.some.inj ho
          have h0 := given_old hg 0 (by decide +kernel)
          clear hg
          exact st_yield ho (wanted_none rfl) (.pointer (some ⟨b, 0, none⟩)) w6 (by simp [execOp, Act.eval, h0, go_sem]) ⟨_, rfl, Below.refl _ _, by rintro t' ⟨⟩; rfl⟩
        | 4, ho =>
          obtain rfl := Option.some.inj ho
          obtain ⟨_, h46, rfl⟩ := given_fed hg 46 (by decide +kernel)
          clear hg
          exact st_yield ho (wanted_none rfl) (.pointer (some ⟨b, 0, none⟩)) w6 (by simp [execOp, Act.eval, h46, go_sem]) ⟨_, rfl, Below.refl _ _, by rintro t' ⟨⟩; rfl⟩
        | 5, ho =>
          obtain rfl := Option.some.inj ho
          obtain ⟨_, h47, rfl⟩ := given_fed hg 47 (by decide +kernel)
          clear hg
          exact st_yield ho (wanted_none rfl) (.pointer (some ⟨b, 0, none⟩)) w6 (by simp [execOp, Act.eval, h47, go_sem]) ⟨_, rfl, Below.refl _ _, by rintro t' ⟨⟩; rfl⟩
        | 6, ho =>
          obtain rfl := Option.some.inj ho
          obtain ⟨_, h48, rfl⟩ := given_fed hg 48 (by decide +kernel)
          clear hg
          exact st_yield ho (wanted_none rfl) (.slice (some ⟨g, 0, none⟩) rl cap) w6 (by simp [execOp, Act.eval, h48, go_sem, k0]) ⟨_, rfl, Below.refl _ _, by rintro t' ⟨⟩; rfl⟩
        | 7, ho =>
          obtain rfl := Option.some.inj ho
          have h1 := given_old hg 1 (by decide +kernel)
          clear hg
          exact st_yield ho (wanted_none rfl) (.int .i64 (at_ : Int)) w6 (by simp [execOp, Act.eval, h1, go_sem]) ⟨_, rfl, Below.refl _ _, by rintro t' ⟨⟩; rfl⟩
        | 8, ho =>
          obtain rfl := Option.some.inj ho
          obtain ⟨_, h50, rfl⟩ := given_fed hg 50 (by decide +kernel)
          clear hg
          exact st_yield ho (wanted_none rfl) (.int .i64 (d : Int)) w6 (by simp [execOp, Act.eval, h50, go_sem, hq, hqw]) ⟨_, rfl, Below.refl _ _, by rintro t' ⟨⟩; rfl⟩
        | 9, ho =>
          obtain rfl := Option.some.inj ho
          obtain ⟨_, h49, rfl⟩ := given_fed hg 49 (by decide +kernel)
          obtain ⟨_, h51, rfl⟩ := given_fed hg 51 (by decide +kernel)
          clear hg
          exact st_yield ho (wanted_none rfl) (.pointer (some ⟨g, d, none⟩)) w6 (by simp [execOp, Act.eval, h49, h51, go_sem, hix]) ⟨_, rfl, Below.refl _ _, by rintro t' ⟨⟩; rfl⟩
        | 10, ho =>
          obtain rfl := Option.some.inj ho
          obtain ⟨_, h52, rfl⟩ := given_fed hg 52 (by decide +kernel)
          clear hg
          exact st_yield ho (wanted_none rfl) (.int .u8 (o : Int)) w6 (by simp [execOp, Act.eval, h52, go_sem, ko]) ⟨_, rfl, Below.refl _ _, by rintro t' ⟨⟩; rfl⟩
        | 11, ho =>
          obtain rfl := Option.some.inj ho
          have h9 := given_old hg 9 (by decide +kernel)
          clear hg
          exact st_yield ho (wanted_none rfl) (.int .i64 (um : Int)) w6 (by simp [execOp, Act.eval, h9, go_sem]) ⟨_, rfl, Below.refl _ _, by rintro t' ⟨⟩; rfl⟩
        | 12, ho =>
          obtain rfl := Option.some.inj ho
          obtain ⟨_, h53, rfl⟩ := given_fed hg 53 (by decide +kernel)
          obtain ⟨_, h54, rfl⟩ := given_fed hg 54 (by decide +kernel)
          clear hg
          exact st_yield ho (wanted_none rfl) (.int .u8 (c1 : Int)) w6 (by simp [execOp, Act.eval, h53, h54, go_sem, hc1]) ⟨_, rfl, Below.refl _ _, by rintro t' ⟨⟩; rfl⟩
        | 13, ho =>
          obtain rfl := Option.some.inj ho
          have h10 := given_old hg 10 (by decide +kernel)
          clear hg
          exact st_yield ho (wanted_none rfl) (.int .i64 (t : Int)) w6 (by simp [execOp, Act.eval, h10, go_sem]) ⟨_, rfl, Below.refl _ _, by rintro t' ⟨⟩; rfl⟩
        | 14, ho =>
          obtain rfl := Option.some.inj ho
          obtain ⟨_, h56, rfl⟩ := given_fed hg 56 (by decide +kernel)
          clear hg
          exact st_yield ho (wanted_none rfl) (.int .i64 (t8 : Int)) w6 (by simp [execOp, Act.eval, h56, go_sem, ht8]) ⟨_, rfl, Below.refl _ _, by rintro t' ⟨⟩; rfl⟩
        | 15, ho =>
          obtain rfl := Option.some.inj ho
          obtain ⟨_, h55, rfl⟩ := given_fed hg 55 (by decide +kernel)
          obtain ⟨_, h57, rfl⟩ := given_fed hg 57 (by decide +kernel)
          clear hg
          exact st_yield ho (wanted_none rfl) (.int .u8 (c2 : Int)) w6 (by simp [execOp, Act.eval, h55, h57, go_sem, hc2i]) ⟨_, rfl, Below.refl _ _, by rintro t' ⟨⟩; rfl⟩
        | 16, ho =>
          obtain rfl := Option.some.inj ho
          obtain ⟨_, h58, rfl⟩ := given_fed hg 58 (by decide +kernel)
          clear hg
          exact st_yield ho (wanted_none rfl) (.int .u64 (c2 : Int)) w6 (by simp [execOp, Act.eval, h58, go_sem, hcv]) ⟨_, rfl, Below.refl _ _, by rintro t' ⟨⟩; rfl⟩
        | 17, ho =>
          obtain rfl := Option.some.inj ho
          obtain ⟨_, h45, rfl⟩ := given_fed hg 45 (by decide +kernel)
          obtain ⟨_, h59, rfl⟩ := given_fed hg 59 (by decide +kernel)
          clear hg
          exact st_yield ho (wanted_none rfl) (.int .u64 (X2 : Int)) w6 (by simp [execOp, Act.eval, h45, h59, go_sem, hr]) ⟨_, rfl, Below.refl _ _, by rintro t' ⟨⟩; rfl⟩
        | 18, ho =>
          obtain rfl := Option.some.inj ho
          obtain ⟨_, h60, rfl⟩ := given_fed hg 60 (by decide +kernel)
          clear hg
          exact st_yield ho (wanted_none rfl) (.int .u64 (X2 : Int)) w6 (by simp [execOp, Act.eval, h60, go_sem]) ⟨_, rfl, Below.refl _ _, by rintro t' ⟨⟩; rfl⟩
        | n + 19, ho => simp at ho
      · intro f w6 hb6 hv
        have h8 := hv 8 (by decide)
        simp only [V7] at h8
        have hbw6 := hbw.trans (hb6.mono hbw.size)
        have hk64 : k ≤ 64 := by have := Hjk.out; omega
        have hat63 : at_ + t ≤ 1000000000000000 := by have := Hat.out; have := Hjk.out; omega
        clear hv K0 KO hr hcv hc2i hc1 hqw hq hx1 ht8 hix hb6 h4
        unfold putAll
        simp only [List.foldl]
        simp only [h8]
        go_simp
        go_wp2_with fail
        go_roundw
        case rel => exact ⟨j + t, k - t, by have := Hjk.out; omega, (by have := Hat.out; congr 1; omega), (by congr 1; omega), by rw [EX2.out], hbw6⟩
        case measure => simp only [intOf]; omega
    · obtain rfl : k = 0 := by omega
      obtain rfl : j = n := by omega
      clear hc1 h4
      go_wp2_with fail
      go_ret2
      exact ⟨rfl, hbw⟩

end Go.Proofs.YthbnecdeebmlhaaGreat

namespace Go.Proofs.YthbnecdeebmlhaaGreat
open Go.RowKit

/-- Is bit i set? -/
def atBit (l : List Bool) (i : Int) : Bool := decide (0 ≤ i) && l.getD i.toNat false
set_option maxRecDepth 100000 in
theorem at_c (i : Int) (w : World) (B b : Nat) (v : Value) (l : List Bool) (h : BT w B b v l) (hl : l.length ≤ 562949953421312) :
    Calls Tryz.prog 51 #[.pointer (some ⟨b, 0, none⟩), .int .i64 i] w fun e w' => e = .returned (.bool (atBit l i)) ∧ Below w.heap.size w w' := by
  by_cases hi : 0 ≤ i ∧ i < l.length
  · obtain ⟨k, rfl⟩ : ∃ k : Nat, i = (k : Int) := ⟨i.toNat, by omega⟩
    have hk : k < l.length := by omega
    have e1 : (l.drop k).take 1 = [l[k]] := by rw [List.drop_eq_getElem_cons hk]; rfl
    have e2 : atBit l (k : Int) = l[k] := by simp [atBit, hk]
    have C := num_c k 1 w B b v l h hl (by omega) (by omega)
    rw [e1] at C
    rw [e2]
    generalize l[k] = t at C
    clear e1 e2 h hi hk
    cases t
    all_goals
      have C := Go.Lib.hid C
      go_enter Tryz.func51, Tryz.ntmps51
      go_wp2_with fail
      refine C.out.mono ?_
      rintro e w1 ⟨rfl, h1⟩
      clear C
      go_wp2_with fail
      go_ret
      exact ⟨rfl, h1⟩
  · have e2 : atBit l i = false := by
      unfold atBit
      by_cases h0 : 0 ≤ i
      · rw [List.getD_eq_getElem?_getD, List.getElem?_eq_none (by omega)]; simp
      · simp [h0]
    have C := Go.Lib.hid (num_no i 1 w B b v l h hl (by omega))
    rw [e2]
    clear e2 h hi
    go_enter Tryz.func51, Tryz.ntmps51
    go_wp2_with fail
    refine C.out.mono ?_
    rintro e w1 ⟨rfl, rfl⟩
    clear C
    go_wp2_with fail
    go_ret
    exact ⟨rfl, Below.refl _ _⟩

end Go.Proofs.YthbnecdeebmlhaaGreat

namespace Go.Proofs.YthbnecdeebmlhaaGreat
open Go.RowKit

theorem own_empty (w : World) (e : TypeId) : Own e (w.alloc (.cells #[] e)) w.heap.size (.slice (some ⟨w.heap.size, 0, none⟩) 0 0) [] :=
  ⟨rfl, .inr ⟨w.heap.size, 0, #[], rfl, Nat.le_refl _, heap_alloc_new w _, Nat.le_refl _, by simp [maxLen], rfl, rfl⟩⟩

set_option maxRecDepth 100000 in
theorem bclone_c (v : Value) (l : List UInt8) (w : World) (h : RB w v l) (hl : l.length ≤ 140737488355328) :
    Calls Tryz.prog 84 #[v] w fun e w' => ∃ v', e = .returned v' ∧ Own 5 w' w.heap.size v' l ∧ Below w.heap.size w w' := by
  obtain ⟨a, cap, rfl, h1, h2, h3, h4⟩ := id h
  have hq := fun w => Go.Lib.run_eql_slice_nil (P := Tryz.prog) w 47 5 a l.length cap 0 0 Tryz.underlying47
  cases a with
  | none =>
    obtain rfl := h3 rfl
    obtain rfl : l = [] := List.eq_nil_of_length_eq_zero (by omega)
    clear h h3 h4 hq
    have hq := fun w => Go.Lib.run_eql_slice_nil (P := Tryz.prog) w 47 5 none 0 0 0 0 Tryz.underlying47
    simp only [List.length_nil]
    go_enter Tryz.func84, Tryz.ntmps84
    go_wp2_with fail
    go_ret
    exact ⟨_, rfl, Own.nil _ _ _, Below.refl _ _⟩
  | some ad =>
    clear h3 h4 h1 h2
    go_enter Tryz.func84, Tryz.ntmps84
    have ho := own_empty w 5
    have hr := h.below ((Below.refl _ w).alloc (Nat.le_refl _) (.cells #[] 5))
    have hsz : w.heap.size ≤ (w.alloc (.cells #[] 5)).heap.size := by simp
    go_wp2_with (first
      | (with_reducible show wpList _ _ _ (⟨some 7, _, _, _, _, _⟩ :: _) _ _; go_must (refine wpList_append_RB rfl (.tmp 5) (.tmp 6) 47 rfl w.heap.size 5 Tryz.underlying47 info8 (.slice (some ⟨w.heap.size, 0, none⟩) 0 0) (.slice (some ad) l.length cap) [] l rfl rfl ho hr (by simpa using hl) hsz ?_); intro v' w2 ho2 hg2; rw [List.nil_append] at ho2)
      | fail)
    go_ret
    exact ⟨v', rfl, ho2, ((Below.refl _ w).alloc (Nat.le_refl _) _).grown hg2 hsz (fun k hk => by cases hk; exact Nat.le_refl _)⟩

theorem bytes_c (w : World) (B b : Nat) (v : Value) (p : List UInt8) (n : Nat) (h : BB w B b v p n) (hl : p.length ≤ 140737488355328) :
    Calls Tryz.prog 81 #[.pointer (some ⟨b, 0, none⟩)] w fun e w' => ∃ v', e = .returned v' ∧ Own 5 w' w.heap.size v' p ∧ Below w.heap.size w w' := by
  have hc0 := h.c0
  have C := Go.Lib.hid (bclone_c v p w h.row.rb hl)
  clear h
  go_enter Tryz.func81, Tryz.ntmps81
  go_wp2_with fail
  refine C.out.mono ?_
  rintro e w1 ⟨v', rfl, h1, h2⟩
  go_wp2_with fail
  go_ret
  exact ⟨v', rfl, h1, h2⟩

end Go.Proofs.YthbnecdeebmlhaaGreat
