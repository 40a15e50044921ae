/-
  The contract of dev's Crash.
-/
import Derived.Test.YtiejjiccncmeiaaDoorDevT
import Derived.Deep.RegionHeld3
namespace Go.Proofs.YtiejjiccncmeiaaDoor
open Go.RowKit

set_option maxRecDepth 100000 in
theorem dcrash_nil (v : Value) (w : World) : Calls Tryd.prog 13 #[.pointer none, v] w fun e w' => e = .returned (.pointer none) ∧ w = w' := by
  go_enter Tryd.func13, Tryd.ntmps13
  go_wp2_with fail
  go_ret
  exact ⟨rfl, rfl⟩

theorem over_all {l b : List UInt8} (h : b.length = l.length) : over l b = b := by
  unfold over
  rw [h, List.drop_length, List.append_nil]
theorem DV.putKept {w : World} {B d g n : Nat} {S S' : Nat → Sec} {L : Life} (h : DV w B d g n S L) {i : Nat} (hi : i < n) {l : List UInt8} (hl : l.length = 64) (e : ∀ j, j < n → S' j = upS S i ⟨(S i).now, l, (S i).loose⟩ j) : DV (w.setCells g (i * 129 + 64) (cells l)) B d g n S' L :=
  (h.rowTo (setCells_heap_other h.ne) (h.row.putKept i hi l hl)).congr e
theorem DV.putNow {w : World} {B d g n : Nat} {S S' : Nat → Sec} {L : Life} (h : DV w B d g n S L) {i : Nat} (hi : i < n) {l : List UInt8} (hl : l.length = 64) (e : ∀ j, j < n → S' j = upS S i ⟨l, (S i).kept, (S i).loose⟩ j) : DV (w.setCells g (i * 129) (cells l)) B d g n S' L := by
  refine (h.rowTo (setCells_heap_other h.ne) (h.row.putNow i hi l (by omega))).congr (fun j hj => ?_)
  rw [e j hj, over_all (by rw [hl, (h.row.whole i hi).1])]
theorem below_cells {B b o : Nat} {vs : List Value} {a w : World} (h : Below B a w) (hb : B ≤ b) : Below B a (w.setCells b o vs) :=
  h.trans ⟨setCells_os.1, setCells_os.2.1, setCells_os.2.2, by rw [setCells_size]; exact Nat.le_refl _, fun k hk => setCells_heap_other (by omega)⟩

def cr1 (S : Nat → Sec) (k : Nat) : Nat → Sec := fun j => ⟨zeros, if j < k then (S j).kept else zeros, false⟩
def cr2 (S : Nat → Sec) (keep : List Bool) (k : Nat) : Nat → Sec := fun j => ⟨zeros, keptK S keep k j, false⟩
def cr3 (S : Nat → Sec) (keep : List Bool) (k : Nat) : Nat → Sec := fun j => ⟨if j < k then keptS S keep j else zeros, keptS S keep j, false⟩

section
variable {w : World} {B d g n : Nat} {S : Nat → Sec} {L : Life}
set_option maxRecDepth 100000
set_option maxHeartbeats 1000000
theorem dcrash_c (h : DV w B d g n S L) (kv : Value) (keep : List Bool) (hv : RV w kv (zb keep)) : Calls Tryd.prog 13 #[.pointer (some ⟨d, 0, none⟩), kv] w fun e w' => ∃ d' g', e = .returned (.pointer (some ⟨d', 0, none⟩)) ∧ DV w' w.heap.size d' g' n (crS S keep) born ∧ Below w.heap.size w w' := by
  have hlt := Go.Lib.hid h.lt
  have hltg := Go.Lib.hid h.ltg
  have hne0 : Hid (w.heap.size + 1 ≠ w.heap.size) := by show _ ≠ _; omega
  have hne1 : Hid (d ≠ w.heap.size) := by have := hlt.out; show _ ≠ _; omega
  have hne2 : Hid (g ≠ w.heap.size) := by have := hltg.out; show _ ≠ _; omega
  have n0 := h.n0
  have n1 := h.n1
  have c0 := h.c0
  have H := Go.Lib.hid h
  have HV := Go.Lib.hid hv
  have hu := Tryd.underlying55
  clear h hv
  go_enter Tryd.func13, Tryd.ntmps13
  go_upto_region 4 with (first
    | (with_reducible show wpList _ _ _ (⟨some 17, _, _, _, _, _⟩ :: _) _ _; go_loud (refine wpList_make_secs rfl (.tmp 16) (.tmp 16) rfl .i64 .i64 _ _ n rfl rfl rfl rfl n1 ?_); intro w2 hs hb hsz)
    | fail)
  have hb3 := hb.out.alloc (by omega) (.cells #[.slice (some ⟨w.heap.size, 0, none⟩) n n, .int .i64 0, .bool false, .int .i64 0, .bool false] 49)
  have hnew : DV (w2.alloc (.cells #[.slice (some ⟨w.heap.size, 0, none⟩) n n, .int .i64 0, .bool false, .int .i64 0, .bool false] 49)) w.heap.size (w.heap.size + 1) w.heap.size n newS born :=
    ⟨by rw [← hsz]; exact heap_alloc_new _ _, hs.out.same (Below.heap_alloc _ _ _ (by omega)), born_ok, by omega, Nat.le_refl _, n0, n1⟩
  have c0 := (H.out.below hb3).c0
  have HN := Go.Lib.hid hnew
  have HB3 := Go.Lib.hid hb3
  clear hnew hb3 hs hb
  go_wp2_with fail
  go_loopw [25] (fun c wr => ∃ k : Nat, k ≤ n ∧ c = .int .i64 (k : Int) ∧ DV wr w.heap.size (w.heap.size + 1) w.heap.size n (cr1 S k) born ∧ Below w.heap.size w wr) (fun c _ => n - (intOf c).toNat)
  case atStart => exact ⟨0, by omega, rfl, HN.out, HB3.out⟩
  case round =>
    obtain ⟨k, hk, rfl, hdv, hbw⟩ := hrel
    clear HN HB3 c0
    by_cases hkn : k < n
    · have hd := H.out.below hbw
      have c0 := hd.c0
      have k0 := hdv.c0
      have hl := Go.Lib.hid (hd.row.whole k hkn).2
      have hr := (hd.row.sec k hkn).kept
      have ht := hdv.row.there (k * 129 + 64) 64 (by omega)
      have hnx : DV (wr.drew.setCells w.heap.size (k * 129 + 64) (cells (S k).kept)) w.heap.size (w.heap.size + 1) w.heap.size n (cr1 S (k + 1)) born := by
        refine hdv.drew.putKept hkn hl.out (fun j _ => ?_)
        unfold cr1 upS
        by_cases e : j = k
        · subst e; simp
        · simp only [if_neg e]
          congr 1
          by_cases e2 : j < k
          · rw [if_pos e2, if_pos (by omega)]
          · rw [if_neg e2, if_neg (by omega)]
      have HX := Go.Lib.hid hnx
      have HBW := Go.Lib.hid (below_cells (hbw.drew) (Nat.le_refl w.heap.size) (o := k * 129 + 64) (vs := cells (S k).kept))
      have hkI : (k : Int) < (n : Int) := by omega
      have hk0 : (0 : Int) ≤ (k : Int) := Int.natCast_nonneg _
      have HW := Go.Lib.hid (show (k : Int) + 1 = ((k + 1 : Nat) : Int) from by omega)
      have h1 : ∀ v ∈ cells (S k).kept, v.oneCell' = true := cells_one _
      have hcl : (cells (S k).kept).length = 64 := by rw [cells_length, hl.out]
      have hi : (Tryd.prog.info? 55).map (·.size) = some (cells (S k).kept).length := by rw [sizeArr, hcl]
      clear hdv hbw hd hnx H HV hlt hltg
      go_upto_region 7 with (fail)
      go_region_held3 (fun w' => w'.cell? ⟨w.heap.size + 1, 0, none⟩ = some (.slice (some ⟨w.heap.size, 0, none⟩) n n) ∧ w'.cell? ⟨d, 0, none⟩ = some (.slice (some ⟨g, 0, none⟩) n n) ∧ w'.rangeAt g (k * 129 + 64) (cells (S k).kept) ∧ w'.there w.heap.size (k * 129 + 64) 64) (first | go_keep_ranges | (go_split_ands; exact ⟨cell_apart (by assumption) rfl _ _ _ (.inl hne0.out), cell_apart (by assumption) rfl _ _ _ (.inl hne1.out), World.rangeAt_setCells_apart (by assumption) _ _ _ (.inl hne2.out), World.there_setCells (by assumption) _ _ _⟩)) (fail)
      go_wp2_with fail
      go_roundw
      case rel => exact ⟨k + 1, by omega, by rw [HW.out], HX.out, HBW.out⟩
      case measure => simp only [intOf]; omega
    · obtain rfl : k = n := by omega
      have hd := H.out.below hbw
      have c0 := hd.c0
      have CL := Go.Lib.hid (dloose_c hd)
      have HD2 := Go.Lib.hid (hdv.congr (S' := cr2 S keep 0) (fun j hj => by unfold cr1 cr2; rw [keptK_zero, if_pos hj]))
      have hq1 := Go.Lib.hid hdv.lt
      have hq2 := Go.Lib.hid hdv.ltg
      have HBW := Go.Lib.hid hbw
      have hkv := HV.out.below hbw
      obtain ⟨ka, kcap, rfl, hklen, -⟩ := HV.out.zbForm
      clear hdv hbw hd
      go_wp2_with fail
      refine CL.out.mono ?_
      rintro e w4 ⟨v, rfl, hown, hb4⟩
      have hle := looseL_length_le (lf S) k
      obtain ⟨a, cap, rfl, hlen⟩ := hown.rv.form
      rw [zi_length] at hlen hown
      obtain ⟨m, hm⟩ : ∃ m, m = (looseL (lf S) k).length := ⟨_, rfl⟩
      rw [← hm] at hlen hown hle
      have HM := Go.Lib.hid hm; clear hm
      rw [zi_length, ← HM.out]
      have hbw4 := HBW.out.trans (hb4.mono HBW.out.size)
      have hdv4 := HD2.out.below hb4
      have hkv4 := hkv.below hb4
      have HOWN := Go.Lib.hid hown
      have HBW4 := Go.Lib.hid hbw4
      have HDV4 := Go.Lib.hid hdv4
      have HKV4 := Go.Lib.hid hkv4
      clear hkv hown hbw4 hdv4 hkv4 c0
      go_wp2_with fail
      go_loopw [47] (fun c wy => ∃ q : Nat, q ≤ m ∧ c = .int .i64 (q : Int) ∧ DV wy w.heap.size (w.heap.size + 1) w.heap.size k (cr2 S keep q) born ∧ Two (w.heap.size + 1) (some w.heap.size) w4 wy ∧ Below w.heap.size w wy) (fun c _ => m - (intOf c).toNat)
      case atStart => exact ⟨0, by omega, rfl, HDV4.out, Two.refl _ _ _, HBW4.out⟩
      case round =>
        obtain ⟨q, hq, rfl, hdv, htwo, hbw⟩ := hrel
        by_cases hqm : q < m
        · have hql : q < (looseL (lf S) k).length := by rw [← HM.out]; exact hqm
          have hown2 := HOWN.out.twoAbove htwo hq1.out hq2.out
          obtain ⟨b, o, rfl, hcell, -⟩ := hown2.rv.at q (by rw [zi_length]; exact hql)
          rw [zi_at .i64 _ q hql] at hcell
          obtain ⟨i, hi⟩ : ∃ i, i = (looseL (lf S) k)[q] := ⟨_, rfl⟩
          have hin : i < k := by rw [hi]; exact (looseL_get (lf S) k q hql).1
          have hst := Go.Lib.hid (fun j => keptK_step S keep k q hql j)
          rw [← hi] at hcell
          rw [← hi] at hst
          clear hi
          have hkv := HV.out.below hbw
          have hd := H.out.below hbw
          have c0 := hd.c0
          have k0 := hdv.c0
          have hl := Go.Lib.hid (hd.row.whole i hin).1
          have hr := (hd.row.sec i hin).now
          have ht := hdv.row.there (i * 129 + 64) 64 (by omega)
          have hiI : (i : Int) < (k : Int) := by omega
          have hi0 : (0 : Int) ≤ (i : Int) := Int.natCast_nonneg _
          have hqI : (q : Int) < (m : Int) := by omega
          have hq0 : (0 : Int) ≤ (q : Int) := Int.natCast_nonneg _
          have HW := Go.Lib.hid (show (q : Int) + 1 = ((q + 1 : Nat) : Int) from by omega)
          have HDQ := Go.Lib.hid hdv
          have HTW := Go.Lib.hid htwo
          have HBQ := Go.Lib.hid hbw
          have h1 : ∀ v ∈ cells (S i).now, v.oneCell' = true := cells_one _
          have hcl : (cells (S i).now).length = 64 := by rw [cells_length, hl.out]
          have hi : (Tryd.prog.info? 55).map (·.size) = some (cells (S i).now).length := by rw [sizeArr, hcl]
          clear hdv hbw hd htwo hown2 H HV hlt hltg HKV4 HDV4 HBW4 CL
          by_cases hkq : q < keep.length
          · obtain ⟨kb, ko, rfl, hkc, -⟩ := hkv.zbAt q hkq
            have hkqI : (q : Int) < (keep.length : Int) := by omega
            have hget : keep.getD q false = keep[q] := by rw [List.getD_eq_getElem?_getD, List.getElem?_eq_getElem hkq]; rfl
            rw [← hget] at hkc
            clear hget
            cases hb : keep.getD q false with
            | true =>
              rw [hb] at hkc
              have HX : Hid (DV (wr.drew.setCells w.heap.size (i * 129 + 64) (cells (S i).now)) w.heap.size (w.heap.size + 1) w.heap.size k (cr2 S keep (q + 1)) born) := by
                refine HDQ.out.drew.putKept hin hl.out (fun j _ => ?_)
                unfold cr2 upS
                rw [hst.out j]
                by_cases e : j = i
                · subst e; rw [if_pos ⟨rfl, hb⟩, if_pos rfl]
                · rw [if_neg (fun h => e h.1), if_neg e]
              have HB := Go.Lib.hid hb; clear hb
              clear hkv
              generalize keep.length = kl at *
              go_upto_region 13 with (fail)
              go_region_held3 (fun w' => w'.cell? ⟨w.heap.size + 1, 0, none⟩ = some (.slice (some ⟨w.heap.size, 0, none⟩) k k) ∧ w'.cell? ⟨d, 0, none⟩ = some (.slice (some ⟨g, 0, none⟩) k k) ∧ w'.rangeAt g (i * 129) (cells (S i).now) ∧ w'.there w.heap.size (i * 129 + 64) 64) (first | go_keep_ranges | (go_split_ands; exact ⟨cell_apart (by assumption) rfl _ _ _ (.inl hne0.out), cell_apart (by assumption) rfl _ _ _ (.inl hne1.out), World.rangeAt_setCells_apart (by assumption) _ _ _ (.inl hne2.out), World.there_setCells (by assumption) _ _ _⟩)) (fail)
              go_wp2_with fail
              go_roundw
              case rel => exact ⟨q + 1, by omega, by rw [HW.out], HX.out, HTW.out.drew.cellsR, below_cells HBQ.out.drew (Nat.le_refl _)⟩
              case measure => simp only [intOf]; omega
            | false =>
              rw [hb] at hkc
              have HX : Hid (DV wr w.heap.size (w.heap.size + 1) w.heap.size k (cr2 S keep (q + 1)) born) := by
                refine HDQ.out.congr (fun j _ => ?_)
                unfold cr2
                rw [hst.out j, hb]
                simp
              have HB := Go.Lib.hid hb; clear hb
              clear hkv
              generalize keep.length = kl at *
              go_wp2_with fail
              go_roundw
              case rel => exact ⟨q + 1, by omega, by rw [HW.out], HX.out, HTW.out, HBQ.out⟩
              case measure => simp only [intOf]; omega
          · have HX : Hid (DV wr w.heap.size (w.heap.size + 1) w.heap.size k (cr2 S keep (q + 1)) born) := by
              refine HDQ.out.congr (fun j _ => ?_)
              unfold cr2
              rw [hst.out j, List.getD_eq_getElem?_getD, List.getElem?_eq_none (by omega)]
              simp
            have hkqI : ¬ ((q : Int) < (keep.length : Int)) := by omega
            clear hkv
            generalize keep.length = kl at *
            go_wp2_with fail
            go_roundw
            case rel => exact ⟨q + 1, by omega, by rw [HW.out], HX.out, HTW.out, HBQ.out⟩
            case measure => simp only [intOf]; omega
        · obtain rfl : q = m := by omega
          have HE := Go.Lib.hid (hdv.congr (S' := cr3 S keep 0) (fun j hj => by unfold cr2 cr3; rw [HM.out, keptK_all S keep k j hj, if_neg (by omega)]))
          have HB5 := Go.Lib.hid hbw
          have k0 := hdv.c0
          have hwh := Go.Lib.hid H.out.row.whole
          clear hdv htwo hbw H HV hlt hltg HKV4 HDV4 HBW4 CL HBW HD2 HOWN hb4
          go_wp2_with fail
          clear k0
          go_loopw [83] (fun c wz => ∃ p : Nat, p ≤ k ∧ c = .int .i64 (p : Int) ∧ DV wz w.heap.size (w.heap.size + 1) w.heap.size k (cr3 S keep p) born ∧ Below w.heap.size w wz) (fun c _ => k - (intOf c).toNat)
          case atStart => exact ⟨0, by omega, rfl, HE.out, HB5.out⟩
          case round =>
            obtain ⟨p, hp, rfl, hdv, hbw⟩ := hrel
            clear HE HB5
            by_cases hpk : p < k
            · have k0 := hdv.c0
              have hl := Go.Lib.hid (hwh.out.kept keep p hpk)
              have hr : wr.rangeAt w.heap.size (p * 129 + 64) (cells (keptS S keep p)) := (hdv.row.sec p hpk).kept
              have ht := hdv.row.there (p * 129) 64 (by omega)
              have hpI : (p : Int) < (k : Int) := by omega
              have hp0 : (0 : Int) ≤ (p : Int) := Int.natCast_nonneg _
              have HW := Go.Lib.hid (show (p : Int) + 1 = ((p + 1 : Nat) : Int) from by omega)
              have HX : Hid (DV (wr.drew.setCells w.heap.size (p * 129) (cells (keptS S keep p))) w.heap.size (w.heap.size + 1) w.heap.size k (cr3 S keep (p + 1)) born) := by
                refine hdv.drew.putNow hpk hl.out (fun j _ => ?_)
                unfold cr3 upS
                by_cases e : j = p
                · subst e; simp
                · simp only [if_neg e]
                  congr 1
                  by_cases e2 : j < p
                  · rw [if_pos e2, if_pos (by omega)]
                  · rw [if_neg e2, if_neg (by omega)]
              have HBW := Go.Lib.hid (below_cells (hbw.drew) (Nat.le_refl w.heap.size) (o := p * 129) (vs := cells (keptS S keep p)))
              have h1 : ∀ v ∈ cells (keptS S keep p), v.oneCell' = true := cells_one _
              have hcl : (cells (keptS S keep p)).length = 64 := by rw [cells_length, hl.out]
              have hi : (Tryd.prog.info? 55).map (·.size) = some (cells (keptS S keep p)).length := by rw [sizeArr, hcl]
              clear hdv hbw
              generalize keptS S keep p = K at *
              go_upto_region 18 with (fail)
              go_region_held3 (fun w' => w'.cell? ⟨w.heap.size + 1, 0, none⟩ = some (.slice (some ⟨w.heap.size, 0, none⟩) k k) ∧ w'.rangeAt w.heap.size (p * 129 + 64) (cells K) ∧ w'.there w.heap.size (p * 129) 64) (first | go_keep_ranges | (go_split_ands; exact ⟨cell_apart (by assumption) rfl _ _ _ (.inl hne0.out), World.rangeAt_setCells_apart (by assumption) _ _ _ (.inr (.inr (by omega))), World.there_setCells (by assumption) _ _ _⟩)) (fail)
              go_wp2_with fail
              go_roundw
              case rel => exact ⟨p + 1, by omega, by rw [HW.out], HX.out, HBW.out⟩
              case measure => simp only [intOf]; omega
            · obtain rfl : p = k := by omega
              have HF := Go.Lib.hid (hdv.congr (S' := crS S keep) (fun j hj => by unfold cr3 crS; rw [if_pos hj]))
              have HBF := Go.Lib.hid hbw
              clear hdv hbw
              go_wp2_with fail
              go_ret
              exact ⟨_, _, rfl, HF.out, HBF.out⟩
end

end Go.Proofs.YtiejjiccncmeiaaDoor
