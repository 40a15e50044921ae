/-
  Stage 18: the law's same.
  Records that were cut; the reference's May of one.
  Slices of records: contract of the laws' Recs.
  Stage 18: what the laws over records keep: a log, the same records by rising keys in a row of its own.
  Stage 18: the reference's Reads of a log's records.
  Stage 18: what a log has makes one alike, in whatever order.
-/
import Derived.Test.YtggokffdgjedgaaGreatM11
import Derived.Test.YtggokffdgjedgaaGreatM06
import Derived.Test.YtggokffdgjedgaaGreatM09
import Derived.Test.YtggokffdgjedgaaGreatM05
import Derived.Test.YtggokffdgjedgaaGreatM03
import Derived.LoopTactic
import Derived.BigQuiet
import Derived.Deep.DeepCutAuto
namespace Go.Proofs.YtggokffdgjedgaaGreat
open Go.RowKit

/-- The first n slots of a table, the rest empty. -/
def upT (TT : TabT) (n : Nat) : TabT := fun q => if q < n then TT q else (false, nullR)
theorem upT_set (TT : TabT) {n : Nat} : setT (upT TT n) n (TT n) = upT TT (n + 1) := by
  funext q
  unfold setT upT
  by_cases h : q = n
  · subst h; simp
  · rw [if_neg h]
    by_cases h2 : q < n
    · rw [if_pos h2, if_pos (by omega)]
    · rw [if_neg h2, if_neg (by omega)]
theorem TK.congr {w : World} {g : Nat} {TT UU : TabT} (h : TK w g TT) (he : ∀ q, q < 32 → TT q = UU q) : TK w g UU := ⟨h.row, h.fr, fun q j hq hj => by rw [h.cell q j hq hj, he q hq]⟩
theorem six_one (hq : Bool) (kx : ByteArray) (gx : Bool) (ax nx : Int) (sx : ByteArray) : (#[.bool hq, .string kx, .bool gx, .int .i64 ax, .int .i64 nx, .string sx] : Array Value).all (fun x => x.oneCell') = true := by simp [Value.oneCell']
theorem build_slot (hq : Bool) (kx : ByteArray) (gx : Bool) (ax nx : Int) (sx : ByteArray) (W : World) : (Instr.build 68 #[(0, .bool hq), (1, .agg #[.string kx, .bool gx, .int .i64 ax, .int .i64 nx, .string sx])]).run Tryz.prog W = .ok (.agg #[.bool hq, .string kx, .bool gx, .int .i64 ax, .int .i64 nx, .string sx]) W :=
  run_build W _ _ _ (by kernel_rfl)
def VSm (g b s : Nat) (hq : Bool) (kx : ByteArray) (gx : Bool) (ax nx : Int) (sx : ByteArray) : Nat → World → Value → Prop
  | 39, _, v => v = .int .i64 (b : Int)
  | 40, _, v => v = .int .i64 (s : Int)
  | 41, _, v => v = .bool hq
  | 42, _, v => v = .agg #[.string kx, .bool gx, .int .i64 ax, .int .i64 nx, .string sx]
  | 43, _, v => v = .agg #[.bool hq, .string kx, .bool gx, .int .i64 ax, .int .i64 nx, .string sx]
  | 44, _, v => v = .pointer (some ⟨g, 24 * b, none⟩)
  | 45, _, v => v = .pointer (some ⟨g, 24 * b + 6 * s, none⟩)
  | _, _, _ => True

theorem VSm_below (g b s : Nat) (hq : Bool) (kx : ByteArray) (gx : Bool) (ax nx : Int) (sx : ByteArray) : ∀ (i : Nat) (w w' : World) (v : Value), VSm g b s hq kx gx ax nx sx i w v → Below w.heap.size w w' → VSm g b s hq kx gx ax nx sx i w' v := by
  intro i w w' v h hb
  unfold VSm at h ⊢
  split at h <;> first | exact h | trivial | exact h

set_option maxHeartbeats 8000000 in
set_option maxRecDepth 100000 in
theorem same_c {w : World} {B p d : Nat} {v : Value} {L : List RecT} (h : LG w B p d v L) (u : Value) (hu : RS w u (newestR L)) :
    Calls Tryz.prog 19 #[.pointer (some ⟨p, 0, none⟩), u] w fun e w' => e = .returned (.bool true) ∧ Below w.heap.size w w' := by
  obtain ⟨T, hc, hf⟩ := h.ck
  have HML := Go.Lib.hid (okTo_log hf h.keys h.may)
  have HNL := Go.Lib.hid (newest_log hf h.keys)
  have HSZ := Go.Lib.hid fun q hq => logT_short (q := q) hf h.may hq
  have HSLOT := Go.Lib.hid fun W (hb : Below w.heap.size w W) b s hb8 hs4 => lslot_c (b := b) (s := s) (h.below hb) (hc.below hb) hf hb8 hs4
  have HOUT := Go.Lib.hid fun W (hb : Below w.heap.size w W) => lslot_out (b := 8) (s := 0) (h.below hb) (by omega)
  have HLEN := Go.Lib.hid (llen_c h)
  have HLST := Go.Lib.hid (llist_c h)
  have HLN := Go.Lib.hid (newest_len h.keys)
  obtain ⟨a, cap, rfl, hm⟩ := hu.form
  have HU := Go.Lib.hid hu
  clear h hc hu
  have hlI : ((L.length : Int) != ((newestR L).length : Int)) = false := by rw [HLN.out]; simp
  have hlI2 : ((L.length : Int) == ((newestR L).length : Int)) = true := by rw [HLN.out]; simp
  generalize newestR L = M at *
  go_enter Tryz.func19, Tryz.ntmps19
  go_wp2_with fail
  refine HLEN.out.mono ?_
  rintro e w1 ⟨rfl, rfl⟩
  go_wp2_with fail
  refine HLST.out.mono ?_
  rintro e w1 ⟨v1, rfl, ho, hb⟩
  have CE := reqrecs_c v1 (.slice a M.length cap) M M w1 ho.rs (HU.out.below hb)
  rw [show decide (M = M) = true from decide_eq_true rfl] at CE
  have CE := Go.Lib.hid CE
  have HB1 := Go.Lib.hid hb
  clear ho hb HLEN HLST
  go_wp2_with fail
  refine CE.out.mono ?_
  rintro e w2 ⟨rfl, hb⟩
  have HB2 := Go.Lib.hid (HB1.out.trans (hb.mono HB1.out.size))
  clear hb CE HB1 hlI hlI2
  have hz := zero_tab
  have HT3 := Go.Lib.hid (TK.new w2 (fun _ => (false, nullR)))
  have HB3 := Go.Lib.hid (HB2.out.trans ((below_one w2 (.cells (tabL (fun _ => (false, nullR)) 32).toArray 71)).mono HB2.out.size))
  generalize (tabL (fun _ => (false, nullR)) 32).toArray = Z at *
  go_wp2_with fail
  obtain ⟨g, hg⟩ : ∃ g, g = w2.heap.size := ⟨_, rfl⟩
  have HGW := Go.Lib.hid (show w.heap.size ≤ g from by have := HB2.out.size; omega)
  rw [← hg] at HT3 ⊢
  clear hg hz
  generalize w2.alloc (.cells Z 71) = w3 at *
  have HT4 := Go.Lib.hid (show TK w3 g (upT (logT T L) (4 * 0)) from HT3.out.congr fun q hq => by unfold upT; rw [if_neg (by omega)])
  clear HT3
  go_loopw [6] (fun bi wr => ∃ b : Nat, b ≤ 8 ∧ bi = .int .i64 (b : Int) ∧ Hid (TK wr g (upT (logT T L) (4 * b))) ∧ Hid (Below w.heap.size w wr)) (fun bi _ => 8 - (intOf bi).toNat)
  case atStart => exact ⟨0, by omega, rfl, HT4, HB3⟩
  case round =>
    obtain ⟨b, hb, rfl, HT, HB⟩ := hrel
    by_cases hlt : b < 8
    · have hltI : (b : Int) < 8 := by omega
      go_wp2_with fail
      go_loopw [7] (fun si wr => ∃ s : Nat, s ≤ 4 ∧ si = .int .i64 (s : Int) ∧ Hid (TK wr g (upT (logT T L) (4 * b + s))) ∧ Hid (Below w.heap.size w wr)) (fun si _ => 4 - (intOf si).toNat)
      case atStart => exact ⟨0, by omega, rfl, HT, HB⟩
      case round =>
        obtain ⟨s, hs4, rfl, HT, HB⟩ := hrel
        by_cases hslt : s < 4
        · as_aux_lemma =>
            have hsI : (s : Int) < 4 := by omega
            have CS := HSLOT.out wr HB.out b s hlt hslt
            unfold outR recOf recV at CS
            have HST := Go.Lib.hid (show setT (upT (logT T L) (4 * b + s)) (4 * b + s) (ofO (slotO T L (4 * b + s))) = upT (logT T L) (4 * b + (s + 1)) from upT_set (logT T L))
            unfold ofO at HST
            generalize slotO T L (4 * b + s) = o at *
            obtain ⟨hq, hhq⟩ : ∃ hq, hq = o.isSome := ⟨_, rfl⟩
            rw [← hhq] at CS HST
            generalize o.getD nullR = x at *
            obtain ⟨kx, gx, ax, nx, sx⟩ := x
            simp only [] at CS
            have CS := Go.Lib.hid CS
            clear hhq
            go_wp2_with fail
            refine CS.out.mono ?_
            rintro e w5 ⟨rfl, hc⟩
            have hc2 := hc.trans ((below_one w5 (.cells #[.string kx, .bool gx, .int .i64 ax, .int .i64 nx, .string sx] 33)).mono hc.size)
            have HX6 := Go.Lib.hid (heap_alloc_new w5 (.cells #[.string kx, .bool gx, .int .i64 ax, .int .i64 nx, .string sx] 33))
            have HT6 := Go.Lib.hid (HT.out.below hc2)
            have HB6 := Go.Lib.hid (HB.out.trans (hc2.mono HB.out.size))
            clear hc hc2 CS HT HB
            go_upto_region 11 with (fail)
            obtain ⟨g5, hg5⟩ : ∃ g, g = w5.heap.size := ⟨_, rfl⟩
            rw [← hg5] at HX6 ⊢
            clear hg5
            generalize w5.alloc (.cells #[.string kx, .bool gx, .int .i64 ax, .int .i64 nx, .string sx] 33) = w7 at *
            have hix1 := idxT g b hlt
            have hix2 := idxT2 g (24 * b) s hslt
            refine wp_region_head 7 (by decide) (by kernel_rfl) (VSm g b s hq kx gx ax nx sx) (VSm_below g b s hq kx gx ax nx sx) (by decide +kernel) (by rfl) [39, 40, 41, 42, 43, 44, 45] (by rfl) ?_ ?_
            · intro i o hin ho a w6 hb6 hlen hg
              obtain ⟨y0, y1, y2, y3, y4⟩ := row5 (row_kept HX6.out hb6)
              match i, hin, ho with
              | 0, hin, ho =>
                obtain rfl := Option.some.inj ho
                have h6 := given_old hg 6 (by decide +kernel)
                clear hg
                exact st_yield ho (wanted_none rfl) (.int .i64 (b : Int)) w6 (by simp [execOp, Act.eval, h6, go_sem]) ⟨_, rfl, Below.refl _ _, by rintro t' ⟨⟩; rfl⟩
              | 1, hin, ho =>
                obtain rfl := Option.some.inj ho
                have h7 := given_old hg 7 (by decide +kernel)
                clear hg
                exact st_yield ho (wanted_none rfl) (.int .i64 (s : Int)) w6 (by simp [execOp, Act.eval, h7, go_sem]) ⟨_, rfl, Below.refl _ _, by rintro t' ⟨⟩; rfl⟩
              | 2, hin, ho =>
                obtain rfl := Option.some.inj ho
                have h9 := given_old hg 9 (by decide +kernel)
                clear hg
                exact st_yield ho (wanted_none rfl) (.bool hq) w6 (by simp [execOp, Act.eval, h9, go_sem]) ⟨_, rfl, Below.refl _ _, by rintro t' ⟨⟩; rfl⟩
              | 3, hin, ho =>
                obtain rfl := Option.some.inj ho
                have h8 := given_old hg 8 (by decide +kernel)
                clear hg
                exact st_yield ho (wanted_none rfl) (.agg #[.string kx, .bool gx, .int .i64 ax, .int .i64 nx, .string sx]) w6 (by simp [execOp, Act.eval, h8, go_sem, y0, y1, y2, y3, y4]) ⟨_, rfl, Below.refl _ _, by rintro t' ⟨⟩; rfl⟩
              | 4, hin, ho =>
                obtain rfl := Option.some.inj ho
                obtain ⟨_, h41, rfl⟩ := given_fed hg 41 (by decide +kernel)
                obtain ⟨_, h42, rfl⟩ := given_fed hg 42 (by decide +kernel)
                clear hg
                exact st_yield ho (wanted_none rfl) (.agg #[.bool hq, .string kx, .bool gx, .int .i64 ax, .int .i64 nx, .string sx]) w6 (by simp [execOp, Act.eval, h41, h42, build_slot hq kx gx ax nx sx w6]) ⟨_, rfl, Below.refl _ _, by rintro t' ⟨⟩; rfl⟩
              | 5, hin, ho =>
                obtain rfl := Option.some.inj ho
                have h5 := given_old hg 5 (by decide +kernel)
                obtain ⟨_, h39, rfl⟩ := given_fed hg 39 (by decide +kernel)
                clear hg
                exact st_yield ho (wanted_none rfl) (.pointer (some ⟨g, 24 * b, none⟩)) w6 (by simp [execOp, Act.eval, h5, h39, go_sem, hix1]) ⟨_, rfl, Below.refl _ _, by rintro t' ⟨⟩; rfl⟩
              | 6, hin, ho =>
                obtain rfl := Option.some.inj ho
                obtain ⟨_, h44, rfl⟩ := given_fed hg 44 (by decide +kernel)
                obtain ⟨_, h40, rfl⟩ := given_fed hg 40 (by decide +kernel)
                clear hg
                exact st_yield ho (wanted_none rfl) (.pointer (some ⟨g, 24 * b + 6 * s, none⟩)) w6 (by simp [execOp, Act.eval, h44, h40, go_sem, hix2]) ⟨_, rfl, Below.refl _ _, by rintro t' ⟨⟩; rfl⟩
              | n + 7, hin, ho => omega
            · intro f w8 hb8 hv
              have h43 := hv 43 (by decide)
              have h45 := hv 45 (by decide)
              simp only [VSm] at h43 h45
              have HT8 := Go.Lib.hid (HT6.out.below hb8)
              have HB8 := Go.Lib.hid (HB6.out.trans (hb8.mono HB6.out.size))
              have HTH := Go.Lib.hid (show w8.there g (24 * b + 6 * s) (#[.bool hq, .string kx, .bool gx, .int .i64 ax, .int .i64 nx, .string sx] : Array Value).size from by rw [show 24 * b + 6 * s = 6 * (4 * b + s) by omega]; exact HT8.out.there (by omega))
              have HT9 := HT8.out.set (q := 4 * b + s) (by omega) (hq, kx, gx, ax, nx, sx)
              rw [HST.out, show 6 * (4 * b + s) = 24 * b + 6 * s by omega] at HT9
              have HT9 := Go.Lib.hid HT9
              have HB9 := Go.Lib.hid (show Below w.heap.size w (w8.setCells g (24 * b + 6 * s) (enc6 (hq, kx, gx, ax, nx, sx))) from HB8.out.trans ⟨(setCells_rest _ _ _ _).1, (setCells_rest _ _ _ _).2.1, (setCells_rest _ _ _ _).2.2.1, Nat.le_of_eq (setCells_rest _ _ _ _).2.2.2.symm, fun k hk => setCells_heap _ _ _ _ _ (by have := HGW.out; omega)⟩)
              clear hv hb8 hix1 hix2 HT6 HB6
              unfold putAll
              simp only [List.foldl, List.drop]
              simp only [h43, h45]
              clear h43 h45
              go_simp
              go_wp2_with (first
                | (with_reducible show wpList _ _ _ (⟨none, _, _, _, _, _⟩ :: _) _ _; go_loud (refine wpList_store_mid rfl 68 (.tmp 45) (.tmp 43) rfl g (24 * b + 6 * s) #[.bool hq, .string kx, .bool gx, .int .i64 ax, .int .i64 nx, .string sx] rfl rfl HTH.out (by kernel_rfl) (six_one hq kx gx ax nx sx) ?_))
                | fail)
              go_roundw
              case rel => exact ⟨s + 1, by omega, by go_num, HT9, HB9⟩
              case measure => simp only [intOf]; omega
        · obtain rfl : s = 4 := by omega
          go_wp2_with fail
          exact ⟨⟨b + 1, by omega, by go_num, HT, HB⟩, by simp only [intOf]; omega⟩
    · obtain rfl : b = 8 := by omega
      as_aux_lemma =>
        have CO := HOUT.out wr HB.out
        rw [outR_none] at CO
        have CO := Go.Lib.hid CO
        have HT5 := Go.Lib.hid (HT.out.congr (UU := logT T L) fun q hq => by unfold upT; rw [if_pos (by omega)])
        clear HT
        go_wp2_with fail
        refine CO.out.mono ?_
        rintro e w5 ⟨rfl, hc⟩
        have hc2 := hc.trans ((below_one w5 (.cells #[.string ⟨#[]⟩, .bool false, .int .i64 0, .int .i64 0, .string ⟨#[]⟩] 33)).mono hc.size)
        have HT6 := Go.Lib.hid (HT5.out.below hc2)
        have HB6 := Go.Lib.hid (HB.out.trans (hc2.mono HB.out.size))
        clear hc hc2 CO HT5
        go_upto_region 13 with (fail)
        generalize w5.alloc (.cells #[.string ⟨#[]⟩, .bool false, .int .i64 0, .int .i64 0, .string ⟨#[]⟩] 33) = w6 at *
        have CM := rmaytab_c (logT T L) w6 HSZ.out
        rw [HML.out] at CM
        have CM := Go.Lib.hid CM
        have CR := fun W => rrecs_c (logT T L) W
        rw [HNL.out] at CR
        have CR := Go.Lib.hid CR
        have HRG := Go.Lib.hid (fun W (hb : Below w6.heap.size w6 W) => (HT6.out.below hb).range)
        have HSZT := Go.Lib.hid (sizeTab (logT T L))
        clear HML HNL HSZ HSLOT HOUT
        generalize tabL (logT T L) 32 = TL at *
        go_wp2_with (first
          | (with_reducible show wpList _ _ _ (⟨some 54, _, _, _, _, _⟩ :: _) _ _; go_loud (refine wpList_met (by first | exact wanted_some rfl rfl rfl rfl | kernel_rfl | simp [Region.wanted, yielded]) (wpList_load_mid rfl 71 (.tmp 5) rfl g 0 rfl TL _ (HRG.out w6 (Below.refl _ _)) Tryz.underlying71 rfl HSZT.out ?_)))
          | fail)
        refine CM.out.mono ?_
        rintro e w7 ⟨rfl, hc⟩
        have HR7 := Go.Lib.hid (HRG.out w7 hc)
        have HB7 := Go.Lib.hid (HB6.out.trans (hc.mono HB6.out.size))
        clear hc CM HT6 HRG
        go_wp2_with (first
          | (with_reducible show wpList _ _ _ (⟨some 58, _, _, _, _, _⟩ :: _) _ _; go_loud (refine wpList_met (by first | exact wanted_some rfl rfl rfl rfl | kernel_rfl | simp [Region.wanted, yielded]) (wpList_load_mid rfl 71 (.tmp 5) rfl g 0 rfl TL _ HR7.out Tryz.underlying71 rfl HSZT.out ?_)))
          | fail)
        refine (CR.out _).mono ?_
        rintro e w8 ⟨v8, rfl, ho8, hc⟩
        have HB8 := Go.Lib.hid (HB7.out.trans (hc.mono HB7.out.size))
        have CE := reqrecs_c v8 (.slice a M.length cap) M M w8 ho8.rs (HU.out.below HB8.out)
        rw [show decide (M = M) = true from decide_eq_true rfl] at CE
        have CE := Go.Lib.hid CE
        clear hc CR ho8
        go_wp2_with fail
        refine CE.out.mono ?_
        rintro e w9 ⟨rfl, hc⟩
        have HB9 := Go.Lib.hid (HB8.out.trans (hc.mono HB8.out.size))
        clear hc CE
        go_wp2_with fail
        go_ret
        exact ⟨rfl, HB9.out⟩

end Go.Proofs.YtggokffdgjedgaaGreat

namespace Go.Proofs.YtggokffdgjedgaaGreat
open Go.RowKit

def cutR (x : RecT) : RecT := (str ((bl x.1).take 20), x.2.1, x.2.2.1, x.2.2.2.1, str ((bl x.2.2.2.2).take 30))

theorem cut_sizes {l : List RecT} {n : Nat} {x : RecT} (h : x ∈ (l.take n).map cutR) : x.1.size ≤ 20 ∧ x.2.2.2.2.size ≤ 30 := by
  obtain ⟨y, -, rfl⟩ := List.mem_map.1 h
  unfold cutR
  simp only []
  rw [str_size, str_size, List.length_take, List.length_take]
  omega
/-- The reference's May of a record as one letter. -/
theorem rmayT_c (kx : ByteArray) (gx : Bool) (ax nx : Int) (sx : ByteArray) (w : World) (h1 : kx.size ≤ 20) (h2 : sx.size ≤ 30) :
    Calls Tryz.prog 10 #[.agg #[.string kx, .bool gx, .int .i64 ax, .int .i64 nx, .string sx]] w fun e w' => e = .returned (.bool (mayT (kx, gx, ax, nx, sx))) ∧ Below w.heap.size w w' :=
  rmayrec_c kx gx ax nx sx w (by unfold maxLen; omega) (by unfold maxLen; omega)
end Go.Proofs.YtggokffdgjedgaaGreat

namespace Go.Proofs.YtggokffdgjedgaaGreat
open Go.RowKit

set_option maxHeartbeats 2000000 in
set_option maxRecDepth 100000 in
theorem recs_c (v : Value) (l : List RecT) (n : Nat) (w : World) (hv : RRec w v l) (hn : n ≤ 1000) :
    Calls Tryz.prog 7 #[v, .int .i64 (n : Int)] w fun e w' => ∃ v', e = .returned v' ∧ OwnRec w' w.heap.size v' ((l.take n).map cutR) ∧ Below w.heap.size w w' := by
  have Hok := Go.Lib.hid hv.ok
  have hrs := hv.rs
  obtain ⟨a, cap, rfl, hm⟩ := hrs.form
  clear hv
  have HR := Go.Lib.hid hrs; clear hrs
  go_enter Tryz.func7, Tryz.ntmps7
  go_wp2_with fail
  go_loopw [5, 6] (fun vb i w2 => ∃ k : Nat, k ≤ l.length ∧ k ≤ n ∧ i = .int .i64 (k : Int) ∧ OwnRec w2 w.heap.size vb ((l.take k).map cutR) ∧ Below w.heap.size w w2) (fun _ i _ => n - (intOf i).toNat)
  case atStart => exact ⟨0, by omega, by omega, rfl, by simpa using OwnRec.nil _ _, Below.refl _ _⟩
  case round =>
    obtain ⟨k, hk, hkn, rfl, hown, hbc⟩ := hrel
    by_cases hlt : k < l.length
    · by_cases hltn : k < n
      · obtain ⟨b, o, rfl, -, hbs, c0, c1, c2, c3, c4⟩ := (HR.out.below hbc).at k hlt
        have ok := Hok.out l[k] (List.getElem_mem hlt)
        have hsn : (l.take (k + 1)).map cutR = (l.take k).map cutR ++ [cutR l[k]] := by rw [List.take_succ_eq_append_getElem hlt, List.map_append]; rfl
        have hml : ((l.take k).map cutR).length ≤ 1000 := by rw [List.length_map, List.length_take]; omega
        generalize l[k] = x at *
        obtain ⟨key, gone, rk, rn, rs⟩ := x
        obtain ⟨ok1, -, -, ok4⟩ := ok
        simp only [] at c0 c1 c2 c3 c4 ok1 ok4
        have C1 := Go.Lib.hid fun W => rcut_c key gone rk rn rs W ok1 ok4
        have hcx : cutR (key, gone, rk, rn, rs) = (str ((bl key).take 20), gone, rk, rn, str ((bl rs).take 30)) := rfl
        rw [hcx] at hsn
        clear hcx
        generalize (l.take k).map cutR = m at *
        generalize hk2 : str ((bl key).take 20) = key2 at *
        generalize hs2 : str ((bl rs).take 30) = s2 at *
        unfold recV at C1
        have Hsn := Go.Lib.hid hsn; clear hsn
        have Hix := Go.Lib.hid (run_idx5 b o l.length cap k hlt)
        clear ok1 ok4 hk2 hs2
        go_wp2_with fail
        refine (C1.out _).mono ?_
        rintro e w2 ⟨rfl, hc⟩
        have hown2 := OwnRec.below (hown.below hc) (below_one w2 (.cells #[.string key2, .bool gone, .int .i64 rk, .int .i64 rn, .string s2] 33))
        have hbc2 := hbc.trans (hc.mono hbc.size)
        have hbc3 := hbc2.trans ((below_one w2 (.cells #[.string key2, .bool gone, .int .i64 rk, .int .i64 rn, .string s2] 33)).mono hbc2.size)
        have hone := RS.one w2 (key2, gone, rk, rn, s2)
        simp only [] at hone
        have hbs := hbc3.size
        clear hc hown hbc c0 c1 c2 c3 c4 Hix C1 hbc2
        go_wp2_with (first
          | (with_reducible show wpList _ _ _ (⟨some 25, _, _, _, _, _⟩ :: _) _ _; go_loud (refine wpList_append_recs rfl (.tmp 18) (.tmp 24) rfl w.heap.size u5 (.slice (some ⟨w2.heap.size, 0, none⟩) 1 1) m [(key2, gone, rk, rn, s2)] rfl rfl hown2 hone (by simp; omega) hbs ?_); intro v4 w4 hown4 hg4; have hbc4 := hbc3.grown hg4 hbs hown2.row)
          | fail)
        rw [← Hsn.out] at hown4
        exact ⟨⟨k + 1, by omega, by omega, by go_num, hown4, hbc4⟩, by simp only [intOf]; omega⟩
      · obtain rfl : k = n := by omega
        go_wp2_with fail
        go_ret
        exact ⟨_, rfl, hown, hbc⟩
    · obtain rfl : k = l.length := by omega
      rw [List.take_of_length_le (Nat.le_refl _)] at hown
      have he : Hid (l.map cutR = (l.take n).map cutR) := by unfold Hid; rw [List.take_of_length_le hkn]
      rw [he.out] at hown
      go_wp2_with fail
      go_ret
      exact ⟨_, rfl, hown, hbc⟩

end Go.Proofs.YtggokffdgjedgaaGreat

namespace Go.Proofs.YtggokffdgjedgaaGreat
open Go.RowKit

/-- Records as a log has them. -/
structure GoodL (L : List RecT) (n : Nat) : Prop where
  keys : KeysOk L
  may : ∀ x ∈ L, mayT x = true
  len : L.length ≤ n
theorem GoodL.nil : GoodL [] 0 := ⟨by simp [KeysOk], (fun x h => by cases h), Nat.le_refl _⟩
theorem GoodL.put {L : List RecT} {n : Nat} (h : GoodL L n) (x : RecT) : GoodL (putN L x) (n + 1) := by
  unfold putN
  by_cases hm : (mayT x && roomR L x.1) = true
  · rw [if_pos hm]
    refine ⟨h.keys.put x, fun y hy => ?_, Nat.le_trans (putL_len L x) (Nat.succ_le_succ h.len)⟩
    rcases (mem_put h.keys x y).1 hy with rfl | ⟨hy, -⟩
    · exact (Bool.and_eq_true _ _ ▸ hm).1
    · exact h.may y hy
  · rw [if_neg hm]
    exact ⟨h.keys, h.may, Nat.le_succ_of_le h.len⟩
theorem GoodL.mono {L : List RecT} {n m : Nat} (h : GoodL L n) (hm : n ≤ m) : GoodL L m := ⟨h.keys, h.may, Nat.le_trans h.len hm⟩
theorem GoodL.nlen {L : List RecT} {n : Nat} (h : GoodL L n) : (newestR L).length ≤ n := by rw [newest_len h.keys]; exact h.len
theorem GoodL.nsize {L : List RecT} {n : Nat} (h : GoodL L n) : ∀ x ∈ newestR L, x.1.size ≤ 1000000 := fun x hx => by
  have := mayT_short (h.may x ((newest_mem h.keys x).1 hx))
  omega
theorem putE_bad {L : List RecT} {x : RecT} (hm : mayT x = false) : putE L x = 1 := by unfold putE; simp [hm]
theorem putE_full {L : List RecT} {x : RecT} (hm : mayT x = true) (hr : roomR L x.1 = false) : putE L x = 5 := by unfold putE; simp [hm, hr]
theorem putE_ok {L : List RecT} {x : RecT} (hm : mayT x = true) (hr : roomR L x.1 = true) : putE L x = 0 := by unfold putE; simp [hm, hr]
theorem LG.good {w : World} {B p d : Nat} {v : Value} {L : List RecT} (h : LG w B p d v L) : GoodL L 32 := ⟨h.keys, h.may, h.len⟩
theorem rroomG_c (u : Value) {L : List RecT} {n : Nat} (hg : GoodL L n) (hn : n ≤ 1000) (key : ByteArray) (w : World) (hu : RS w u (newestR L)) (hk : key.size ≤ 20) :
    Calls Tryz.prog 11 #[u, .string key] w fun e w' => e = .returned (.bool (roomR L key)) ∧ Below w.heap.size w w' := by
  have C := rroomR_c u (newestR L) key w hu (by have := hg.nlen; omega) hg.nsize (by omega)
  rw [roomR_newest hg.keys] at C
  exact C
theorem rsetG_c (u : Value) {L : List RecT} {n : Nat} (hg : GoodL L n) (hn : n ≤ 1000) (kx : ByteArray) (gx : Bool) (ax nx : Int) (sx : ByteArray) (hm : mayT (kx, gx, ax, nx, sx) = true) (hr : roomR L kx = true) (w : World) (hu : RS w u (newestR L)) :
    Calls Tryz.prog 13 #[u, .agg #[.string kx, .bool gx, .int .i64 ax, .int .i64 nx, .string sx]] w fun e w' => ∃ v', e = .returned v' ∧ OwnRec w' w.heap.size v' (newestR (putN L (kx, gx, ax, nx, sx))) ∧ Below w.heap.size w w' := by
  have C := rset_c u (newestR L) kx gx ax nx sx w hu (by have := hg.nlen; omega)
  rw [← newest_put hg.keys, ← putN_zero hm hr] at C
  exact C

end Go.Proofs.YtggokffdgjedgaaGreat

namespace Go.Proofs.YtggokffdgjedgaaGreat
open Go.RowKit

theorem reads_step (l : List RecT) (key : ByteArray) {k : Nat} (hk : k < l.length) : readsR (l.take (k + 1)) key = readsR (l.take k) key + (if nearN (hashS key) (hashS l[k].1) then 1 else 0) := by
  unfold readsR
  rw [List.take_succ_eq_append_getElem hk, List.countP_append]
  simp [List.countP_cons, hR]
def VLn (b q len cap k hk hx : Nat) (key kx : ByteArray) : Nat → World → Value → Prop
  | 13, _, v => v = .string key
  | 14, _, v => v = .int .u64 (hk : Int)
  | 15, _, v => v = .slice (some ⟨b, q, none⟩) len cap
  | 16, _, v => v = .int .i64 (k : Int)
  | 17, _, v => v = .pointer (some ⟨b, q + k * 5, none⟩)
  | 18, _, v => v = .pointer (some ⟨b, q + k * 5, none⟩)
  | 19, _, v => v = .string kx
  | 20, _, v => v = .int .u64 (hx : Int)
  | 21, _, v => v = .bool (nearN hk hx)
  | _, _, _ => True

theorem VLn_below (b q len cap k hk hx : Nat) (key kx : ByteArray) : ∀ (i : Nat) (w w' : World) (v : Value), VLn b q len cap k hk hx key kx i w v → Below w.heap.size w w' → VLn b q len cap k hk hx key kx i w' v := by
  intro i w w' v h hb
  unfold VLn at h ⊢
  split at h <;> first | exact h | trivial | exact h

set_option maxHeartbeats 2000000 in
set_option maxRecDepth 100000 in
theorem rreads_c (v : Value) (l : List RecT) (key : ByteArray) (w : World) (hv : RS w v l) (hl : l.length ≤ 1000) (hs : ∀ x ∈ l, x.1.size ≤ 1000000) (hk : key.size ≤ 1000000) :
    Calls Tryz.prog 18 #[v, .string key] w fun e w' => e = .returned (.int .i64 (readsR l key : Int)) ∧ Below w.heap.size w w' := by
  obtain ⟨a, cap, rfl, hm⟩ := hv.form
  have HR := Go.Lib.hid hv
  have HS := Go.Lib.hid hs
  have CH := Go.Lib.hid fun W => rhash_k key (hashS key) rfl W hk
  have HKL := Go.Lib.hid (hashS_lt key)
  have HST := Go.Lib.hid fun k (h : k < l.length) => reads_step l key h
  clear hv hs hk
  generalize hashS key = hk at *
  go_enter Tryz.func18, Tryz.ntmps18
  go_wp2_with fail
  go_loopw [5, 6] (fun nv ki wr => ∃ (k n : Nat), k ≤ l.length ∧ n ≤ k ∧ ki = .int .i64 (k : Int) ∧ nv = .int .i64 (n : Int) ∧ Hid (n = readsR (l.take k) key) ∧ Hid (Below w.heap.size w wr)) (fun _ ki _ => l.length - (intOf ki).toNat)
  case atStart => exact ⟨0, 0, by omega, by omega, rfl, rfl, Go.Lib.hid (by simp [readsR]), Go.Lib.hid (Below.refl _ _)⟩
  case round =>
    obtain ⟨k, n, hk2, hn, rfl, rfl, HN, HB⟩ := hrel
    by_cases hlt : k < l.length
    · have hltI : (k : Int) < (l.length : Int) := by omega
      obtain ⟨b, q, rfl, -, -, c0, c1, c2, c3, c4⟩ := (HR.out.below HB.out).at k hlt
      have hix := run_idx5 b q l.length cap k hlt
      have hsz := HS.out _ (List.getElem_mem hlt)
      have HNX := Go.Lib.hid (HST.out k hlt)
      have CX := Go.Lib.hid fun W => rhash_k l[k].1 (hashS l[k].1) rfl W hsz
      have CN := Go.Lib.hid fun W => rnear_c hk (hashS l[k].1) W HKL.out (hashS_lt _)
      have C0 := Go.Lib.hid c0
      generalize hashS l[k].1 = hx at *
      generalize l[k].1 = kx at *
      clear c0 c1 c2 c3 c4 hsz
      go_upto_region 5 with (fail)
      refine wp_region_each (by kernel_rfl) (VLn b q l.length cap k hk hx key kx) (VLn_below b q l.length cap k hk hx key kx) (by decide +kernel) (by decide +kernel) (by rfl) [13, 14, 15, 16, 17, 18, 19, 20, 21] (by rfl) ?_ ?_
      · intro i o ho a w6 hb6 hlen hg
        have c0 := keepC C0.out hb6
        match i, ho with
        | 0, ho =>
          obtain rfl := Option.some.inj ho
          have h1 := given_old hg 1 (by decide +kernel)
          clear hg
          exact st_yield ho (wanted_none rfl) (.string key) w6 (by simp [execOp, Act.eval, h1, go_sem]) ⟨_, rfl, Below.refl _ _, by rintro t' ⟨⟩; rfl⟩
        | 1, ho =>
          obtain rfl := Option.some.inj ho
          obtain ⟨_, h13, rfl⟩ := given_fed hg 13 (by decide +kernel)
          clear hg
          exact st_enter (w1 := w6) ho (wanted_none rfl) 27 #[.string key] (by simp [execOp, Act.eval, h13, resolve, go_sem]) ((CH.out _).mono (by rintro e w7 ⟨rfl, hb7⟩; exact ⟨_, rfl, _, rfl, hb7, by rintro t' ⟨⟩; rfl⟩))
        | 2, ho =>
          obtain rfl := Option.some.inj ho
          have h0 := given_old hg 0 (by decide +kernel)
          clear hg
          exact st_yield ho (wanted_none rfl) (.slice (some ⟨b, q, none⟩) l.length cap) w6 (by simp [execOp, Act.eval, h0, go_sem]) ⟨_, rfl, Below.refl _ _, by rintro t' ⟨⟩; rfl⟩
        | 3, ho =>
          obtain rfl := Option.some.inj ho
          have h6 := given_old hg 6 (by decide +kernel)
          clear hg
          exact st_yield ho (wanted_none rfl) (.int .i64 (k : Int)) w6 (by simp [execOp, Act.eval, h6, go_sem]) ⟨_, rfl, Below.refl _ _, by rintro t' ⟨⟩; rfl⟩
        | 4, ho =>
          obtain rfl := Option.some.inj ho
          obtain ⟨_, h15, rfl⟩ := given_fed hg 15 (by decide +kernel)
          obtain ⟨_, h16, rfl⟩ := given_fed hg 16 (by decide +kernel)
          clear hg
          exact st_yield ho (wanted_none rfl) (.pointer (some ⟨b, q + k * 5, none⟩)) w6 (by simp [execOp, Act.eval, h15, h16, go_sem, hix]) ⟨_, rfl, Below.refl _ _, by rintro t' ⟨⟩; rfl⟩
        | 5, ho =>
          obtain rfl := Option.some.inj ho
          obtain ⟨_, h17, rfl⟩ := given_fed hg 17 (by decide +kernel)
          clear hg
          exact st_yield ho (wanted_none rfl) (.pointer (some ⟨b, q + k * 5, none⟩)) w6 (by simp [execOp, Act.eval, h17, go_sem]) ⟨_, rfl, Below.refl _ _, by rintro t' ⟨⟩; rfl⟩
        | 6, ho =>
          obtain rfl := Option.some.inj ho
          obtain ⟨_, h18, rfl⟩ := given_fed hg 18 (by decide +kernel)
          clear hg
          exact st_yield ho (wanted_none rfl) (.string kx) w6 (by simp [execOp, Act.eval, h18, go_sem, c0]) ⟨_, rfl, Below.refl _ _, by rintro t' ⟨⟩; rfl⟩
        | 7, ho =>
          obtain rfl := Option.some.inj ho
          obtain ⟨_, h19, rfl⟩ := given_fed hg 19 (by decide +kernel)
          clear hg
          exact st_enter (w1 := w6) ho (wanted_none rfl) 27 #[.string kx] (by simp [execOp, Act.eval, h19, resolve, go_sem]) ((CX.out _).mono (by rintro e w7 ⟨rfl, hb7⟩; exact ⟨_, rfl, _, rfl, hb7, by rintro t' ⟨⟩; rfl⟩))
        | 8, ho =>
          obtain rfl := Option.some.inj ho
          obtain ⟨_, h14, rfl⟩ := given_fed hg 14 (by decide +kernel)
          obtain ⟨_, h20, rfl⟩ := given_fed hg 20 (by decide +kernel)
          clear hg
          exact st_enter (w1 := w6) ho (wanted_none rfl) 36 #[.int .u64 (hk : Int), .int .u64 (hx : Int)] (by simp [execOp, Act.eval, h14, h20, resolve, go_sem]) ((CN.out w6).mono (by rintro e w7 ⟨rfl, rfl⟩; exact ⟨_, rfl, _, rfl, Below.refl _ _, by rintro t' ⟨⟩; rfl⟩))
        | n + 9, ho => simp at ho
      · intro f w6 hb6 hv
        have h21 := hv 21 (by decide)
        simp only [VLn] at h21
        have HB6 := Go.Lib.hid (HB.out.trans (hb6.mono HB.out.size))
        clear hv hb6 hix CX CN C0
        unfold putAll
        simp only [List.foldl]
        simp only [h21]
        clear h21
        generalize nearN hk hx = t at *
        cases t with
        | true =>
          go_simp
          go_wp2_with fail
          exact ⟨⟨k + 1, n + 1, by omega, by omega, by go_num, by go_num, Go.Lib.hid (by rw [HNX.out, HN.out]; rfl), HB6⟩, by simp only [intOf]; omega⟩
        | false =>
          go_simp
          go_wp2_with fail
          exact ⟨⟨k + 1, n, by omega, by omega, by go_num, rfl, Go.Lib.hid (by rw [HNX.out, HN.out]; rfl), HB6⟩, by simp only [intOf]; omega⟩
    · obtain rfl : k = l.length := by omega
      have HE := Go.Lib.hid (show n = readsR l key from by have := HN.out; rwa [List.take_length] at this)
      go_wp2_with fail
      go_ret
      exact ⟨by rw [HE.out]; rfl, HB.out⟩

end Go.Proofs.YtggokffdgjedgaaGreat

namespace Go.Proofs.YtggokffdgjedgaaGreat
open Go.RowKit

theorem room_pre : ∀ (b a : List Nat), roomB (a ++ b) = true → roomB a = true
  | [], a, h => by rwa [List.append_nil] at h
  | x :: b, a, h => room_le (h := x) (room_pre b (a ++ [x]) (by rwa [List.append_assoc]))
theorem run_all {N : List RecT} (hk : KeysOk N) (hm : ∀ x ∈ N, mayT x = true) (hr : roomB (N.map hR) = true) : ∀ (n k : Nat), N.length - k = n → k ≤ N.length → runP (N.take k) (N.drop k) = (0, N)
  | 0, k, hn, hkl => by
    obtain rfl : k = N.length := by omega
    rw [List.drop_length, List.take_length]
    rfl
  | n + 1, k, hn, hkl => by
    have hlt : k < N.length := by omega
    have hnew : ∀ y ∈ N.take k, keyR y ≠ keyR N[k] := by
      intro y hy e
      obtain ⟨j, hj, rfl⟩ := List.mem_take_iff_getElem.1 hy
      have := List.pairwise_iff_getElem.1 (List.pairwise_map.1 hk) j k (by omega) hlt (by omega)
      exact this e
    have hroom : roomR (N.take k) N[k].1 = true := by
      unfold roomR
      have : roomB ((N.take k).map hR ++ [hashS N[k].1]) = true := by
        have e : (N.take k).map hR ++ [hashS N[k].1] = (N.take (k + 1)).map hR := by
          rw [List.take_succ_eq_append_getElem hlt, List.map_append]
          rfl
        rw [e]
        refine room_pre ((N.drop (k + 1)).map hR) _ ?_
        rw [← List.map_append, List.take_append_drop]
        exact hr
      rw [this, Bool.or_true]
    have h0 := putE_ok (L := N.take k) (x := N[k]) (hm _ (List.getElem_mem hlt)) hroom
    rw [runP_step hlt h0, putN_zero (hm _ (List.getElem_mem hlt)) hroom, putL_new hnew, ← List.take_succ_eq_append_getElem hlt]
    exact run_all hk hm hr n (k + 1) (by omega) hlt
theorem run_perm {N L : List RecT} (hk : KeysOk L) (hm : ∀ x ∈ L, mayT x = true) (hr : roomB (L.map hR) = true) (hp : N.Perm L) : runP [] N = (0, N) := by
  have := run_all (hk.perm hp.symm) (fun x hx => hm x (hp.mem_iff.1 hx)) (by rw [room_perm (hp.map hR)]; exact hr) N.length 0 (by omega) (by omega)
  simpa using this
theorem LG.room {w : World} {B p d : Nat} {v : Value} {L : List RecT} (h : LG w B p d v L) : roomB (L.map hR) = true := by
  obtain ⟨T, -, hf⟩ := h.ck
  have := room_of_fits hf
  rwa [esL_fst] at this
/-- The records in their order, or turned. -/
def turnR (t : Bool) (M : List RecT) : List RecT := if t then M.reverse else M
theorem turnR_len (t : Bool) (M : List RecT) : (turnR t M).length = M.length := by cases t <;> simp [turnR]
theorem turnR_perm (t : Bool) (M : List RecT) : (turnR t M).Perm M := by cases t <;> simp [turnR]
theorem turn_step (M : List RecT) {k : Nat} (hk : k < M.length) : (turnR true M).take (k + 1) = (turnR true M).take k ++ [M[M.length - 1 - k]'(by omega)] := by
  rw [List.take_succ_eq_append_getElem (by rw [turnR_len]; exact hk)]
  congr 2
  simp [turnR]
theorem same_step (M : List RecT) {k : Nat} (hk : k < M.length) : (turnR false M).take (k + 1) = (turnR false M).take k ++ [M[k]] := List.take_succ_eq_append_getElem hk

theorem K5.one' (w : World) (kx : ByteArray) (gx : Bool) (ax nx : Int) (sx : ByteArray) : K5.R (w.alloc (.cells #[.string kx, .bool gx, .int .i64 ax, .int .i64 nx, .string sx] 33)) (.slice (some ⟨w.heap.size, 0, none⟩) 1 1) [(kx, gx, ax, nx, sx)] := Lay.R.one w K5_ok (kx, gx, ax, nx, sx) 33 (0, 0)
theorem wpList_append_rec1 {ops : Array Oper} {rest : List Oper} {o : Oper} {a : Act} {w : World} {Q : Exit → Act → World → Prop} (hgd : o.guard = none) (s x : Operand)
    (ho : o.op = .call { callee := .builtin .append, args := #[s, x], argTypes := #[22, 22] })
    (B : Nat) (v xv : Value) (l m : List RecT) (hs : a.eval s = v) (hx : a.eval x = xv) (hown : OwnRec w B v l) (hrb : K5.R w xv m) (hne : m ≠ []) (hl : l.length + m.length ≤ 1000000) (hbase : B ≤ w.heap.size)
    (h : ∀ v' w', OwnRec w' B v' (l ++ m) → w.grownBy w' v.ownBlock → (v'.ownBlock = v.ownBlock ∨ ∀ k, v'.ownBlock = some k → w.heap.size ≤ k) → wpList Tryz.prog ops Q rest (a.put o.dst v') w') : wpList Tryz.prog ops Q (o :: rest) a w :=
  K5_ok.appendW hgd s x ho B v xv l m hs hx hown hrb hne hl hbase h
/-- A row beside one that grows. -/
theorem apart_append {w w' : World} {B : Nat} {a u v' : Value} {Q : List RecT} (hq : OwnRec w B a Q) (ha : Apart a u) (hg : w.grownBy w' u.ownBlock) (hn : v'.ownBlock = u.ownBlock ∨ ∀ k, v'.ownBlock = some k → w.heap.size ≤ k) : OwnRec w' B a Q ∧ Apart a v' := by
  refine ⟨own_same hq fun g _ _ hgr hga => hg.block g (Array.getElem?_eq_some_iff.1 hgr).1 (fun e => ha g hga e.symm), fun g hga e => ?_⟩
  rcases hn with hn | hn
  · exact ha g hga (hn.symm.trans e)
  · have h1 := hn g e
    have h2 := (World.ownsRow.lt hq g hga).2
    omega

end Go.Proofs.YtggokffdgjedgaaGreat
