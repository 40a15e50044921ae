/-
  The contract of dev's Crash.
  The contract of bytes.Clone.
  The contract of dev's Read.
  Plain facts of devices beside one another, of rows of the call's own.
  A *super.Super in memory. Plain facts.
  A *store.Store in memory, its rooms. Plain facts.
  The contract of store's left.
  The contract of store's takeFile.
-/
import Derived.Test.YtnalokjnbccjnaaGreatDoorM07
import Derived.Deep.RegionHeld3
import Derived.Test.YtnalokjnbccjnaaGreatDoorM01
import Derived.Lib.SliceRun
import Derived.Test.YtnalokjnbccjnaaGreatDoorM05
import Derived.Test.YtnalokjnbccjnaaGreatDoorM04
import Derived.Test.YtnalokjnbccjnaaGreatDoorM06
namespace Go.Proofs.YtnalokjnbccjnaaGreatDoor
open Go.RowKit

set_option maxRecDepth 100000 in
theorem dcrash_nil (v : Value) (w : World) : Calls Tryz.prog 19 #[.pointer none, v] w fun e w' => e = .returned (.pointer none) ∧ w = w' := by
  go_enter Tryz.func19, Tryz.ntmps19
  go_wp2_with fail
  go_ret
  exact ⟨rfl, rfl⟩

theorem over_all {l b : List UInt8} (h : b.length = l.length) : over l b = b := by
  unfold over
  rw [h, List.drop_length, List.append_nil]
theorem DV.putKept {w : World} {B d g n : Nat} {S S' : Nat → Sec} {L : Life} (h : DV w B d g n S L) {i : Nat} (hi : i < n) {l : List UInt8} (hl : l.length = 64) (e : ∀ j, j < n → S' j = upS S i ⟨(S i).now, l, (S i).loose⟩ j) : DV (w.setCells g (i * 129 + 64) (cells l)) B d g n S' L :=
  (h.rowTo (setCells_heap_other h.ne) (h.row.putKept i hi l hl)).congr e
theorem DV.putNow {w : World} {B d g n : Nat} {S S' : Nat → Sec} {L : Life} (h : DV w B d g n S L) {i : Nat} (hi : i < n) {l : List UInt8} (hl : l.length = 64) (e : ∀ j, j < n → S' j = upS S i ⟨l, (S i).kept, (S i).loose⟩ j) : DV (w.setCells g (i * 129) (cells l)) B d g n S' L := by
  refine (h.rowTo (setCells_heap_other h.ne) (h.row.putNow i hi l (by omega))).congr (fun j hj => ?_)
  rw [e j hj, over_all (by rw [hl, (h.row.whole i hi).1])]
theorem below_cells {B b o : Nat} {vs : List Value} {a w : World} (h : Below B a w) (hb : B ≤ b) : Below B a (w.setCells b o vs) :=
  h.trans ⟨setCells_os.1, setCells_os.2.1, setCells_os.2.2, by rw [setCells_size]; exact Nat.le_refl _, fun k hk => setCells_heap_other (by omega)⟩

def cr1 (S : Nat → Sec) (k : Nat) : Nat → Sec := fun j => ⟨zeros, if j < k then (S j).kept else zeros, false⟩
def cr2 (S : Nat → Sec) (keep : List Bool) (k : Nat) : Nat → Sec := fun j => ⟨zeros, keptK S keep k j, false⟩
def cr3 (S : Nat → Sec) (keep : List Bool) (k : Nat) : Nat → Sec := fun j => ⟨if j < k then keptS S keep j else zeros, keptS S keep j, false⟩

section
variable {w : World} {B d g n : Nat} {S : Nat → Sec} {L : Life}
set_option maxRecDepth 100000
set_option maxHeartbeats 1000000
theorem dcrash_c (h : DV w B d g n S L) (kv : Value) (keep : List Bool) (hv : RV w kv (zb keep)) : Calls Tryz.prog 19 #[.pointer (some ⟨d, 0, none⟩), kv] w fun e w' => ∃ d' g', e = .returned (.pointer (some ⟨d', 0, none⟩)) ∧ DV w' w.heap.size d' g' n (crS S keep) born ∧ Below w.heap.size w w' := by
  have hlt := Go.Lib.hid h.lt
  have hltg := Go.Lib.hid h.ltg
  have hne0 : Hid (w.heap.size + 1 ≠ w.heap.size) := by show _ ≠ _; omega
  have hne1 : Hid (d ≠ w.heap.size) := by have := hlt.out; show _ ≠ _; omega
  have hne2 : Hid (g ≠ w.heap.size) := by have := hltg.out; show _ ≠ _; omega
  have n0 := h.n0
  have n1 := h.n1
  have c0 := h.c0
  have H := Go.Lib.hid h
  have HV := Go.Lib.hid hv
  have hu := Tryz.underlying86
  clear h hv
  go_enter Tryz.func19, Tryz.ntmps19
  go_upto_region 4 with (first
    | (with_reducible show wpList _ _ _ (⟨some 17, _, _, _, _, _⟩ :: _) _ _; go_loud (refine wpList_make_secs rfl (.tmp 16) (.tmp 16) rfl .i64 .i64 _ _ n rfl rfl rfl rfl n1 ?_); intro w2 hs hb hsz)
    | fail)
  have hb3 := hb.out.alloc (by omega) (.cells #[.slice (some ⟨w.heap.size, 0, none⟩) n n, .int .i64 0, .bool false, .int .i64 0, .bool false] 64)
  have hnew : DV (w2.alloc (.cells #[.slice (some ⟨w.heap.size, 0, none⟩) n n, .int .i64 0, .bool false, .int .i64 0, .bool false] 64)) w.heap.size (w.heap.size + 1) w.heap.size n newS born :=
    ⟨by rw [← hsz]; exact heap_alloc_new _ _, hs.out.same (Below.heap_alloc _ _ _ (by omega)), born_ok, by omega, Nat.le_refl _, n0, n1⟩
  have c0 := (H.out.below hb3).c0
  have HN := Go.Lib.hid hnew
  have HB3 := Go.Lib.hid hb3
  clear hnew hb3 hs hb
  go_wp2_with fail
  go_loopw [25] (fun c wr => ∃ k : Nat, k ≤ n ∧ c = .int .i64 (k : Int) ∧ DV wr w.heap.size (w.heap.size + 1) w.heap.size n (cr1 S k) born ∧ Below w.heap.size w wr) (fun c _ => n - (intOf c).toNat)
  case atStart => exact ⟨0, by omega, rfl, HN.out, HB3.out⟩
  case round =>
    obtain ⟨k, hk, rfl, hdv, hbw⟩ := hrel
    clear HN HB3 c0
    by_cases hkn : k < n
    · have hd := H.out.below hbw
      have c0 := hd.c0
      have k0 := hdv.c0
      have hl := Go.Lib.hid (hd.row.whole k hkn).2
      have hr := (hd.row.sec k hkn).kept
      have ht := hdv.row.there (k * 129 + 64) 64 (by omega)
      have hnx : DV (wr.drew.setCells w.heap.size (k * 129 + 64) (cells (S k).kept)) w.heap.size (w.heap.size + 1) w.heap.size n (cr1 S (k + 1)) born := by
        refine hdv.drew.putKept hkn hl.out (fun j _ => ?_)
        unfold cr1 upS
        by_cases e : j = k
        · subst e; simp
        · simp only [if_neg e]
          congr 1
          by_cases e2 : j < k
          · rw [if_pos e2, if_pos (by omega)]
          · rw [if_neg e2, if_neg (by omega)]
      have HX := Go.Lib.hid hnx
      have HBW := Go.Lib.hid (below_cells (hbw.drew) (Nat.le_refl w.heap.size) (o := k * 129 + 64) (vs := cells (S k).kept))
      have hkI : (k : Int) < (n : Int) := by omega
      have hk0 : (0 : Int) ≤ (k : Int) := Int.natCast_nonneg _
      have HW := Go.Lib.hid (show (k : Int) + 1 = ((k + 1 : Nat) : Int) from by omega)
      have h1 : ∀ v ∈ cells (S k).kept, v.oneCell' = true := cells_one _
      have hcl : (cells (S k).kept).length = 64 := by rw [cells_length, hl.out]
      have hi : (Tryz.prog.info? 86).map (·.size) = some (cells (S k).kept).length := by rw [sizeArr, hcl]
      clear hdv hbw hd hnx H HV hlt hltg
      go_upto_region 7 with (fail)
      go_region_held3 (fun w' => w'.cell? ⟨w.heap.size + 1, 0, none⟩ = some (.slice (some ⟨w.heap.size, 0, none⟩) n n) ∧ w'.cell? ⟨d, 0, none⟩ = some (.slice (some ⟨g, 0, none⟩) n n) ∧ w'.rangeAt g (k * 129 + 64) (cells (S k).kept) ∧ w'.there w.heap.size (k * 129 + 64) 64) (first | go_keep_ranges | (go_split_ands; exact ⟨cell_apart (by assumption) rfl _ _ _ (.inl hne0.out), cell_apart (by assumption) rfl _ _ _ (.inl hne1.out), World.rangeAt_setCells_apart (by assumption) _ _ _ (.inl hne2.out), World.there_setCells (by assumption) _ _ _⟩)) (fail)
      go_wp2_with fail
      go_roundw
      case rel => exact ⟨k + 1, by omega, by rw [HW.out], HX.out, HBW.out⟩
      case measure => simp only [intOf]; omega
    · obtain rfl : k = n := by omega
      have hd := H.out.below hbw
      have c0 := hd.c0
      have CL := Go.Lib.hid (dloose_c hd)
      have HD2 := Go.Lib.hid (hdv.congr (S' := cr2 S keep 0) (fun j hj => by unfold cr1 cr2; rw [keptK_zero, if_pos hj]))
      have hq1 := Go.Lib.hid hdv.lt
      have hq2 := Go.Lib.hid hdv.ltg
      have HBW := Go.Lib.hid hbw
      have hkv := HV.out.below hbw
      obtain ⟨ka, kcap, rfl, hklen, -⟩ := HV.out.zbForm
      clear hdv hbw hd
      go_wp2_with fail
      refine CL.out.mono ?_
      rintro e w4 ⟨v, rfl, hown, hb4⟩
      have hle := looseL_length_le (lf S) k
      obtain ⟨a, cap, rfl, hlen⟩ := hown.rv.form
      rw [zi_length] at hlen hown
      obtain ⟨m, hm⟩ : ∃ m, m = (looseL (lf S) k).length := ⟨_, rfl⟩
      rw [← hm] at hlen hown hle
      have HM := Go.Lib.hid hm; clear hm
      rw [zi_length, ← HM.out]
      have hbw4 := HBW.out.trans (hb4.mono HBW.out.size)
      have hdv4 := HD2.out.below hb4
      have hkv4 := hkv.below hb4
      have HOWN := Go.Lib.hid hown
      have HBW4 := Go.Lib.hid hbw4
      have HDV4 := Go.Lib.hid hdv4
      have HKV4 := Go.Lib.hid hkv4
      clear hkv hown hbw4 hdv4 hkv4 c0
      go_wp2_with fail
      go_loopw [47] (fun c wy => ∃ q : Nat, q ≤ m ∧ c = .int .i64 (q : Int) ∧ DV wy w.heap.size (w.heap.size + 1) w.heap.size k (cr2 S keep q) born ∧ Two (w.heap.size + 1) (some w.heap.size) w4 wy ∧ Below w.heap.size w wy) (fun c _ => m - (intOf c).toNat)
      case atStart => exact ⟨0, by omega, rfl, HDV4.out, Two.refl _ _ _, HBW4.out⟩
      case round =>
        obtain ⟨q, hq, rfl, hdv, htwo, hbw⟩ := hrel
        by_cases hqm : q < m
        · have hql : q < (looseL (lf S) k).length := by rw [← HM.out]; exact hqm
          have hown2 := HOWN.out.twoAbove htwo hq1.out hq2.out
          obtain ⟨b, o, rfl, hcell, -⟩ := hown2.rv.at q (by rw [zi_length]; exact hql)
          rw [zi_at .i64 _ q hql] at hcell
          obtain ⟨i, hi⟩ : ∃ i, i = (looseL (lf S) k)[q] := ⟨_, rfl⟩
          have hin : i < k := by rw [hi]; exact (looseL_get (lf S) k q hql).1
          have hst := Go.Lib.hid (fun j => keptK_step S keep k q hql j)
          rw [← hi] at hcell
          rw [← hi] at hst
          clear hi
          have hkv := HV.out.below hbw
          have hd := H.out.below hbw
          have c0 := hd.c0
          have k0 := hdv.c0
          have hl := Go.Lib.hid (hd.row.whole i hin).1
          have hr := (hd.row.sec i hin).now
          have ht := hdv.row.there (i * 129 + 64) 64 (by omega)
          have hiI : (i : Int) < (k : Int) := by omega
          have hi0 : (0 : Int) ≤ (i : Int) := Int.natCast_nonneg _
          have hqI : (q : Int) < (m : Int) := by omega
          have hq0 : (0 : Int) ≤ (q : Int) := Int.natCast_nonneg _
          have HW := Go.Lib.hid (show (q : Int) + 1 = ((q + 1 : Nat) : Int) from by omega)
          have HDQ := Go.Lib.hid hdv
          have HTW := Go.Lib.hid htwo
          have HBQ := Go.Lib.hid hbw
          have h1 : ∀ v ∈ cells (S i).now, v.oneCell' = true := cells_one _
          have hcl : (cells (S i).now).length = 64 := by rw [cells_length, hl.out]
          have hi : (Tryz.prog.info? 86).map (·.size) = some (cells (S i).now).length := by rw [sizeArr, hcl]
          clear hdv hbw hd htwo hown2 H HV hlt hltg HKV4 HDV4 HBW4 CL
          by_cases hkq : q < keep.length
          · obtain ⟨kb, ko, rfl, hkc, -⟩ := hkv.zbAt q hkq
            have hkqI : (q : Int) < (keep.length : Int) := by omega
            have hget : keep.getD q false = keep[q] := by rw [List.getD_eq_getElem?_getD, List.getElem?_eq_getElem hkq]; rfl
            rw [← hget] at hkc
            clear hget
            cases hb : keep.getD q false with
            | true =>
              rw [hb] at hkc
              have HX : Hid (DV (wr.drew.setCells w.heap.size (i * 129 + 64) (cells (S i).now)) w.heap.size (w.heap.size + 1) w.heap.size k (cr2 S keep (q + 1)) born) := by
                refine HDQ.out.drew.putKept hin hl.out (fun j _ => ?_)
                unfold cr2 upS
                rw [hst.out j]
                by_cases e : j = i
                · subst e; rw [if_pos ⟨rfl, hb⟩, if_pos rfl]
                · rw [if_neg (fun h => e h.1), if_neg e]
              have HB := Go.Lib.hid hb; clear hb
              clear hkv
              generalize keep.length = kl at *
              go_upto_region 13 with (fail)
              go_region_held3 (fun w' => w'.cell? ⟨w.heap.size + 1, 0, none⟩ = some (.slice (some ⟨w.heap.size, 0, none⟩) k k) ∧ w'.cell? ⟨d, 0, none⟩ = some (.slice (some ⟨g, 0, none⟩) k k) ∧ w'.rangeAt g (i * 129) (cells (S i).now) ∧ w'.there w.heap.size (i * 129 + 64) 64) (first | go_keep_ranges | (go_split_ands; exact ⟨cell_apart (by assumption) rfl _ _ _ (.inl hne0.out), cell_apart (by assumption) rfl _ _ _ (.inl hne1.out), World.rangeAt_setCells_apart (by assumption) _ _ _ (.inl hne2.out), World.there_setCells (by assumption) _ _ _⟩)) (fail)
              go_wp2_with fail
              go_roundw
              case rel => exact ⟨q + 1, by omega, by rw [HW.out], HX.out, HTW.out.drew.cellsR, below_cells HBQ.out.drew (Nat.le_refl _)⟩
              case measure => simp only [intOf]; omega
            | false =>
              rw [hb] at hkc
              have HX : Hid (DV wr w.heap.size (w.heap.size + 1) w.heap.size k (cr2 S keep (q + 1)) born) := by
                refine HDQ.out.congr (fun j _ => ?_)
                unfold cr2
                rw [hst.out j, hb]
                simp
              have HB := Go.Lib.hid hb; clear hb
              clear hkv
              generalize keep.length = kl at *
              go_wp2_with fail
              go_roundw
              case rel => exact ⟨q + 1, by omega, by rw [HW.out], HX.out, HTW.out, HBQ.out⟩
              case measure => simp only [intOf]; omega
          · have HX : Hid (DV wr w.heap.size (w.heap.size + 1) w.heap.size k (cr2 S keep (q + 1)) born) := by
              refine HDQ.out.congr (fun j _ => ?_)
              unfold cr2
              rw [hst.out j, List.getD_eq_getElem?_getD, List.getElem?_eq_none (by omega)]
              simp
            have hkqI : ¬ ((q : Int) < (keep.length : Int)) := by omega
            clear hkv
            generalize keep.length = kl at *
            go_wp2_with fail
            go_roundw
            case rel => exact ⟨q + 1, by omega, by rw [HW.out], HX.out, HTW.out, HBQ.out⟩
            case measure => simp only [intOf]; omega
        · obtain rfl : q = m := by omega
          have HE := Go.Lib.hid (hdv.congr (S' := cr3 S keep 0) (fun j hj => by unfold cr2 cr3; rw [HM.out, keptK_all S keep k j hj, if_neg (by omega)]))
          have HB5 := Go.Lib.hid hbw
          have k0 := hdv.c0
          have hwh := Go.Lib.hid H.out.row.whole
          clear hdv htwo hbw H HV hlt hltg HKV4 HDV4 HBW4 CL HBW HD2 HOWN hb4
          go_wp2_with fail
          clear k0
          go_loopw [83] (fun c wz => ∃ p : Nat, p ≤ k ∧ c = .int .i64 (p : Int) ∧ DV wz w.heap.size (w.heap.size + 1) w.heap.size k (cr3 S keep p) born ∧ Below w.heap.size w wz) (fun c _ => k - (intOf c).toNat)
          case atStart => exact ⟨0, by omega, rfl, HE.out, HB5.out⟩
          case round =>
            obtain ⟨p, hp, rfl, hdv, hbw⟩ := hrel
            clear HE HB5
            by_cases hpk : p < k
            · have k0 := hdv.c0
              have hl := Go.Lib.hid (hwh.out.kept keep p hpk)
              have hr : wr.rangeAt w.heap.size (p * 129 + 64) (cells (keptS S keep p)) := (hdv.row.sec p hpk).kept
              have ht := hdv.row.there (p * 129) 64 (by omega)
              have hpI : (p : Int) < (k : Int) := by omega
              have hp0 : (0 : Int) ≤ (p : Int) := Int.natCast_nonneg _
              have HW := Go.Lib.hid (show (p : Int) + 1 = ((p + 1 : Nat) : Int) from by omega)
              have HX : Hid (DV (wr.drew.setCells w.heap.size (p * 129) (cells (keptS S keep p))) w.heap.size (w.heap.size + 1) w.heap.size k (cr3 S keep (p + 1)) born) := by
                refine hdv.drew.putNow hpk hl.out (fun j _ => ?_)
                unfold cr3 upS
                by_cases e : j = p
                · subst e; simp
                · simp only [if_neg e]
                  congr 1
                  by_cases e2 : j < p
                  · rw [if_pos e2, if_pos (by omega)]
                  · rw [if_neg e2, if_neg (by omega)]
              have HBW := Go.Lib.hid (below_cells (hbw.drew) (Nat.le_refl w.heap.size) (o := p * 129) (vs := cells (keptS S keep p)))
              have h1 : ∀ v ∈ cells (keptS S keep p), v.oneCell' = true := cells_one _
              have hcl : (cells (keptS S keep p)).length = 64 := by rw [cells_length, hl.out]
              have hi : (Tryz.prog.info? 86).map (·.size) = some (cells (keptS S keep p)).length := by rw [sizeArr, hcl]
              clear hdv hbw
              generalize keptS S keep p = K at *
              go_upto_region 18 with (fail)
              go_region_held3 (fun w' => w'.cell? ⟨w.heap.size + 1, 0, none⟩ = some (.slice (some ⟨w.heap.size, 0, none⟩) k k) ∧ w'.rangeAt w.heap.size (p * 129 + 64) (cells K) ∧ w'.there w.heap.size (p * 129) 64) (first | go_keep_ranges | (go_split_ands; exact ⟨cell_apart (by assumption) rfl _ _ _ (.inl hne0.out), World.rangeAt_setCells_apart (by assumption) _ _ _ (.inr (.inr (by omega))), World.there_setCells (by assumption) _ _ _⟩)) (fail)
              go_wp2_with fail
              go_roundw
              case rel => exact ⟨p + 1, by omega, by rw [HW.out], HX.out, HBW.out⟩
              case measure => simp only [intOf]; omega
            · obtain rfl : p = k := by omega
              have HF := Go.Lib.hid (hdv.congr (S' := crS S keep) (fun j hj => by unfold cr3 crS; rw [if_pos hj]))
              have HBF := Go.Lib.hid hbw
              clear hdv hbw
              go_wp2_with fail
              go_ret
              exact ⟨_, _, rfl, HF.out, HBF.out⟩
end

end Go.Proofs.YtnalokjnbccjnaaGreatDoor

namespace Go.Proofs.YtnalokjnbccjnaaGreatDoor
open Go.RowKit

theorem own_empty (w : World) (e : TypeId) : Own e (w.alloc (.cells #[] e)) w.heap.size (.slice (some ⟨w.heap.size, 0, none⟩) 0 0) [] :=
  ⟨rfl, .inr ⟨w.heap.size, 0, #[], rfl, Nat.le_refl _, heap_alloc_new w _, Nat.le_refl _, by simp [maxLen], rfl, rfl⟩⟩

set_option maxRecDepth 100000 in
theorem bclone_c (v : Value) (l : List UInt8) (w : World) (h : RB w v l) (hl : l.length ≤ 140737488355328) :
    Calls Tryz.prog 77 #[v] w fun e w' => ∃ v', e = .returned v' ∧ Own 5 w' w.heap.size v' l ∧ Below w.heap.size w w' := by
  obtain ⟨a, cap, rfl, h1, h2, h3, h4⟩ := id h
  have hq := fun w => Go.Lib.run_eql_slice_nil (P := Tryz.prog) w 45 5 a l.length cap 0 0 Tryz.underlying45
  cases a with
  | none =>
    obtain rfl := h3 rfl
    obtain rfl : l = [] := List.eq_nil_of_length_eq_zero (by omega)
    clear h h3 h4 hq
    have hq := fun w => Go.Lib.run_eql_slice_nil (P := Tryz.prog) w 45 5 none 0 0 0 0 Tryz.underlying45
    simp only [List.length_nil]
    go_enter Tryz.func77, Tryz.ntmps77
    go_wp2_with fail
    go_ret
    exact ⟨_, rfl, Own.nil _ _ _, Below.refl _ _⟩
  | some ad =>
    clear h3 h4 h1 h2
    go_enter Tryz.func77, Tryz.ntmps77
    have ho := own_empty w 5
    have hr := h.below ((Below.refl _ w).alloc (Nat.le_refl _) (.cells #[] 5))
    have hsz : w.heap.size ≤ (w.alloc (.cells #[] 5)).heap.size := by simp
    go_wp2_with (first
      | (with_reducible show wpList _ _ _ (⟨some 7, _, _, _, _, _⟩ :: _) _ _; go_must (refine wpList_append_RB rfl (.tmp 5) (.tmp 6) 45 rfl w.heap.size 5 Tryz.underlying45 info8 (.slice (some ⟨w.heap.size, 0, none⟩) 0 0) (.slice (some ad) l.length cap) [] l rfl rfl ho hr (by simpa using hl) hsz ?_); intro v' w2 ho2 hg2; rw [List.nil_append] at ho2)
      | fail)
    go_ret
    exact ⟨v', rfl, ho2, ((Below.refl _ w).alloc (Nat.le_refl _) _).grown hg2 hsz (fun k hk => by cases hk; exact Nat.le_refl _)⟩

end Go.Proofs.YtnalokjnbccjnaaGreatDoor

namespace Go.Proofs.YtnalokjnbccjnaaGreatDoor
open Go.RowKit

set_option maxRecDepth 100000 in
theorem dread_nil (i : Int) (w : World) : Calls Tryz.prog 73 #[.pointer none, .int .i64 i] w fun e w' => e = .returned (.tuple #[.slice none 0 0, .int .i64 7]) ∧ w = w' := by
  go_enter Tryz.func73, Tryz.ntmps73
  go_wp2_with fail
  go_ret2
  exact ⟨rfl, rfl⟩
/-- What a sector holds reads as its bytes. -/
theorem rb_sector {w : World} {g n i : Nat} {S : Nat → Sec} (h : SR w g n S) (hi : i < n) : RB w (.slice (some ⟨g, i * 129, none⟩) 64 64) (S i).now := by
  have hl := (h.whole i hi).1
  refine ⟨some ⟨g, i * 129, none⟩, 64, by rw [hl], by omega, by simp [maxLen], (fun h => by cases h), fun _ => ⟨g, i * 129, rfl, fun j hj => (h.sec i hi).now j _ (cells_at _ j hj)⟩⟩

section
variable {w : World} {B d g n : Nat} {S : Nat → Sec} {L : Life}
set_option maxRecDepth 100000
theorem dread_out (h : DV w B d g n S L) (i : Int) (hi : i < 0 ∨ (n : Int) ≤ i) : Calls Tryz.prog 73 #[.pointer (some ⟨d, 0, none⟩), .int .i64 i] w fun e w' => e = .returned (.tuple #[.slice none 0 0, .int .i64 3]) ∧ w = w' := by
  have C := Go.Lib.hid (dhas_c h i)
  rw [show (decide (0 ≤ i) && decide (i < (n : Int))) = false from by rcases hi with hi | hi <;> simp <;> omega] at C
  clear h
  go_enter Tryz.func73, Tryz.ntmps73
  go_wp2_with fail
  refine C.out.mono ?_
  rintro e w1 ⟨rfl, rfl⟩
  go_wp2_with fail
  go_ret2
  exact ⟨rfl, rfl⟩
theorem dread_c (h : DV w B d g n S L) (i : Nat) (hi : i < n) : Calls Tryz.prog 73 #[.pointer (some ⟨d, 0, none⟩), .int .i64 (i : Int)] w fun e w' => ∃ v, e = .returned (.tuple #[v, .int .i64 0]) ∧ Own 5 w' w.heap.size v (S i).now ∧ Below w.heap.size w w' := by
  have C := Go.Lib.hid (dhas_c h i)
  rw [show (decide (0 ≤ (i : Int)) && decide ((i : Int) < (n : Int))) = true from by simp; omega] at C
  have c0 := h.c0
  have hl := (h.row.whole i hi).1
  have CC := Go.Lib.hid (bclone_c _ _ w (rb_sector h.row hi) (by omega))
  have hiI : (i : Int) < (n : Int) := by omega
  clear h hl
  go_enter Tryz.func73, Tryz.ntmps73
  go_wp2_with fail
  refine C.out.mono ?_
  rintro e w1 ⟨rfl, rfl⟩
  go_wp2_with fail
  refine CC.out.mono ?_
  rintro e w1 ⟨v, rfl, ho, hb⟩
  go_wp2_with fail
  go_ret2
  exact ⟨v, rfl, ho, hb⟩
end

end Go.Proofs.YtnalokjnbccjnaaGreatDoor

namespace Go.Proofs.YtnalokjnbccjnaaGreatDoor
open Go.RowKit

theorem below_new (w : World) (o : Obj) : Below w.heap.size w (w.alloc o) := (Below.refl _ _).alloc (Nat.le_refl _) o
theorem DV.alloc {w : World} {B d g n : Nat} {S : Nat → Sec} {L : Life} (h : DV w B d g n S L) (o : Obj) : DV (w.alloc o) B d g n S L := h.below (below_new w o)
/-- A byte of a row of the call's own. -/
theorem Own.get {e : TypeId} {w : World} {B : Nat} {v : Value} {l : List UInt8} (h : Own e w B v l) (k : Nat) (x : UInt8) (hk : l[k]? = some x) : ∃ g cap, v = .slice (some ⟨g, 0, none⟩) l.length cap ∧ w.cell? ⟨g, k, none⟩ = some (.int .u8 (x.toNat : Int)) ∧ B ≤ g ∧ g < w.heap.size := by
  obtain ⟨hk1, hk2⟩ := List.getElem?_eq_some_iff.1 hk
  obtain ⟨g, cap, rfl, h1, h2, -⟩ := h.form (by omega)
  have := h.cell k hk1
  rw [hk2] at this
  exact ⟨g, cap, rfl, this, h1, h2⟩

theorem DV.twoAbove {w w' : World} {B d g n d' g' : Nat} {S : Nat → Sec} {L : Life} (h : DV w B d g n S L) (hk : Two d' (some g') w w') (h1 : d' < B) (h2 : g' < B) : DV w' B d g n S L :=
  h.two hk (by have := h.lowd; omega) (by have := h.lowd; omega) (by have := h.lowg; omega) (by have := h.lowg; omega)
theorem Two.cell {w w' : World} {d g : Nat} (hk : Two d (some g) w w') {p : Addr} {v : Value} (h : w.cell? p = some v) (h1 : p.block ≠ d) (h2 : p.block ≠ g) : w'.cell? p = some v :=
  (World.cell?_of_block (w := w) (hk.block p.block (World.block_lt_of_cell? w _ h) h1 (by simpa using h2))).trans h
theorem byte_of (k : Nat) (h : k < 256) : (k : Int) = ((UInt8.ofNat k).toNat : Int) := by
  rw [UInt8.toNat_ofNat']
  omega
theorem byte_succ (k : Nat) (h : k < 255) : (k : Int) + 1 = ((UInt8.ofNat (k + 1)).toNat : Int) := by
  rw [← byte_of (k + 1) (by omega)]
  omega
/-- The life of a device that was never fused, behind k calls. -/
def lifeN (k : Nat) : Life := ⟨(k : Int), false, 0, false⟩
theorem lifeN_zero : born = lifeN 0 := rfl
theorem lifeN_tick (k : Nat) : (lifeN k).tick = lifeN (k + 1) := by unfold lifeN Life.tick; simp

end Go.Proofs.YtnalokjnbccjnaaGreatDoor

namespace Go.Proofs.YtnalokjnbccjnaaGreatDoor
open Go.RowKit

/-- Of the blocks that there were all but those of l are as they were. -/
structure Offs (l : List Nat) (w w' : World) : Prop where
  os : w'.os = w.os
  tape : w'.tape = w.tape
  output : w'.output = w.output
  size : w.heap.size ≤ w'.heap.size
  block : ∀ k, k < w.heap.size → k ∉ l → w'.heap[k]? = w.heap[k]?
theorem Offs.refl (l : List Nat) (w : World) : Offs l w w := ⟨rfl, rfl, rfl, Nat.le_refl _, fun _ _ _ => rfl⟩
theorem Offs.trans {l : List Nat} {w w1 w2 : World} (h : Offs l w w1) (k : Offs l w1 w2) : Offs l w w2 :=
  ⟨k.os.trans h.os, k.tape.trans h.tape, k.output.trans h.output, Nat.le_trans h.size k.size, fun i hi hn => (k.block i (Nat.lt_of_lt_of_le hi h.size) hn).trans (h.block i hi hn)⟩
theorem Offs.of_below {l : List Nat} {w w' : World} (h : Below w.heap.size w w') : Offs l w w' := ⟨h.os, h.tape, h.output, h.size, fun k hk _ => h.block k hk⟩
theorem Offs.of_two {d g : Nat} {l : List Nat} {w w' : World} (h : Two d (some g) w w') (hd : d ∈ l) (hg : g ∈ l) : Offs l w w' :=
  ⟨h.os, h.tape, h.output, h.size, fun k hk hn => h.block k hk (fun e => hn (e ▸ hd)) (fun e => hn (by cases e; exact hg))⟩
theorem Offs.set {l : List Nat} {w w' : World} (h : Offs l w w') {p : Nat} (hp : p ∈ l) (o : Nat) (u : Value) : Offs l w (w'.setCell ⟨p, o, none⟩ u) :=
  ⟨h.os, h.tape, h.output, by simpa [World.setCell] using h.size, fun k hk hn => (Below.heap_setCell _ _ _ _ (by show k ≠ p; rintro rfl; exact hn hp)).trans (h.block k hk hn)⟩
theorem Offs.below {l : List Nat} {w w' : World} {B : Nat} (h : Offs l w w') (hl : ∀ k, k ∈ l → B ≤ k) (hB : B ≤ w.heap.size) : Below B w w' :=
  ⟨h.os, h.tape, h.output, h.size, fun k hk => h.block k (by omega) (fun hm => by have := hl k hm; omega)⟩
theorem Offs.cell {l : List Nat} {w w' : World} (h : Offs l w w') {p : Addr} {v : Value} (hc : w.cell? p = some v) (hp : p.block ∉ l) : w'.cell? p = some v :=
  (World.cell?_of_block (w := w) (h.block p.block (World.block_lt_of_cell? w _ hc) hp)).trans hc

/-- None of the blocks of l is one of bytes. -/
def NoBytes (w : World) (l : List Nat) : Prop := ∀ k, k ∈ l → ∀ cs fr, w.heap[k]? ≠ some (.cells cs 5 fr)
theorem TX.offs {w w' : World} {v : Value} {x : List UInt8} {l : List Nat} (h : TX w v x) (hk : Offs l w w') (hn : NoBytes w l) : TX w' v x := by
  obtain ⟨⟨a, cap, rfl, h1, h2, h3, h4⟩, ht⟩ := h
  have hb : ∀ b o, x ≠ [] → a = some ⟨b, o, none⟩ → w'.heap[b]? = w.heap[b]? := fun b o hne e => by
    obtain ⟨b', o', n, cap', cur, fr, hv, hg⟩ := ht hne
    simp only [Value.slice.injEq] at hv
    obtain ⟨rfl, -, -⟩ := hv
    simp only [Option.some.injEq, Addr.mk.injEq] at e
    obtain ⟨rfl, -, -⟩ := e
    exact hk.block b' (Array.getElem?_eq_some_iff.1 hg).1 (fun hm => hn b' hm _ _ hg)
  refine ⟨⟨a, cap, rfl, h1, h2, h3, fun hne => ?_⟩, fun hne => ?_⟩
  · obtain ⟨b, o, ha, hc⟩ := h4 hne
    exact ⟨b, o, ha, fun i hi => (World.cell?_of_block (w := w) (hb b o hne ha)).trans (hc i hi)⟩
  · obtain ⟨b, o, n, cap', cur, fr, hv, hg⟩ := ht hne
    simp only [Value.slice.injEq] at hv
    obtain ⟨rfl, rfl, rfl⟩ := hv
    exact ⟨b, o, _, _, cur, fr, rfl, (hb b o hne rfl).trans hg⟩

/-- p, a *super.Super: its device at d, its place, what it holds; it lies from block B on. -/
structure SU (w : World) (B p d at_ : Nat) (f : Found) : Prop where
  blk : ∃ v, w.heap[p]? = some (.cells #[.pointer (some ⟨d, 0, none⟩), .int .i64 (at_ : Int), .int .i64 (f.slot : Int), v, .int .i64 (f.turn : Int)] 125) ∧ TX w v f.text
  low : B ≤ p
  fits : f.Fits
section
variable {w w' : World} {B p d at_ g n : Nat} {f : Found} {S : Nat → Sec} {L : Life}
theorem SU.lt (h : SU w B p d at_ f) : p < w.heap.size := by
  obtain ⟨v, hv, -⟩ := h.blk
  exact (Array.getElem?_eq_some_iff.1 hv).1
theorem SU.mono {B' : Nat} (h : SU w B p d at_ f) (hB : B' ≤ B) : SU w B' p d at_ f := ⟨h.blk, Nat.le_trans hB h.low, h.fits⟩
theorem SU.below (h : SU w B p d at_ f) (hb : Below w.heap.size w w') : SU w' B p d at_ f := by
  obtain ⟨v, hv, ht⟩ := h.blk
  exact ⟨⟨v, (hb.block p h.lt).trans hv, ht.below hb⟩, h.low, h.fits⟩
theorem SU.offs {l : List Nat} (h : SU w B p d at_ f) (hk : Offs l w w') (hp : p ∉ l) (hn : NoBytes w l) : SU w' B p d at_ f := by
  obtain ⟨v, hv, ht⟩ := h.blk
  exact ⟨⟨v, (hk.block p h.lt hp).trans hv, ht.offs hk hn⟩, h.low, h.fits⟩
theorem DV.noBytes (h : DV w B d g n S L) : NoBytes w [d, g] := by
  obtain ⟨cur, hr, -⟩ := h.row.row
  intro k hk cs fr e
  simp only [List.mem_cons, List.not_mem_nil, or_false] at hk
  rcases hk with rfl | rfl
  · rw [h.blk] at e
    simp only [Option.some.injEq, Obj.cells.injEq] at e
    exact absurd e.2.1 (by decide)
  · rw [hr] at e
    simp only [Option.some.injEq, Obj.cells.injEq] at e
    exact absurd e.2.1 (by decide)
theorem SU.noBytes (h : SU w B p d at_ f) : NoBytes w [p] := by
  obtain ⟨v, hv, -⟩ := h.blk
  intro k hk cs fr e
  simp only [List.mem_cons, List.not_mem_nil, or_false] at hk
  subst hk
  rw [hv] at e
  simp only [Option.some.injEq, Obj.cells.injEq] at e
  exact absurd e.2.1 (by decide)
theorem SU.apart {d' : Nat} {B' : Nat} (h : SU w B p d' at_ f) (k : DV w B' d g n S L) : p ≠ d ∧ p ≠ g := by
  obtain ⟨v, hv, -⟩ := h.blk
  obtain ⟨cur, hr, -⟩ := k.row.row
  constructor
  · rintro rfl
    rw [k.blk] at hv
    simp only [Option.some.injEq, Obj.cells.injEq] at hv
    exact absurd hv.2.1 (by decide)
  · rintro rfl
    rw [hr] at hv
    simp only [Option.some.injEq, Obj.cells.injEq] at hv
    exact absurd hv.2.1 (by decide)
/-- The device is written to: the Super stays. -/
theorem SU.two {d' B' : Nat} (h : SU w B p d' at_ f) (k : DV w B' d g n S L) (hk : Two d (some g) w w') : SU w' B p d' at_ f :=
  h.offs (l := [d, g]) (Offs.of_two hk (by simp) (by simp)) (by have := h.apart k; simp [this]) k.noBytes
/-- The Super is written to: the device stays. -/
theorem DV.super {B' d' : Nat} (k : DV w B d g n S L) (h : SU w B' p d' at_ f) (o : Nat) (u : Value) : DV (w.setCell ⟨p, o, none⟩ u) B d g n S L := by
  obtain ⟨h1, h2⟩ := h.apart k
  exact k.same (Below.heap_setCell _ _ _ _ (Ne.symm h1)) (Below.heap_setCell _ _ _ _ (Ne.symm h2))
theorem DV.offs {l : List Nat} (k : DV w B d g n S L) (hk : Offs l w w') (h1 : d ∉ l) (h2 : g ∉ l) : DV w' B d g n S L := k.same (hk.block d k.lt h1) (hk.block g k.ltg h2)
theorem SU.cells (h : SU w B p d at_ f) : ∃ v, TX w v f.text ∧ w.cell? ⟨p, 0, none⟩ = some (.pointer (some ⟨d, 0, none⟩)) ∧ w.cell? ⟨p, 1, none⟩ = some (.int .i64 (at_ : Int)) ∧ w.cell? ⟨p, 2, none⟩ = some (.int .i64 (f.slot : Int)) ∧ w.cell? ⟨p, 3, none⟩ = some v ∧ w.cell? ⟨p, 4, none⟩ = some (.int .i64 (f.turn : Int)) := by
  obtain ⟨v, hv, ht⟩ := h.blk
  exact ⟨v, ht, by rw [cell_of_row w p 0 _ _ _ hv]; rfl, by rw [cell_of_row w p 1 _ _ _ hv]; rfl, by rw [cell_of_row w p 2 _ _ _ hv]; rfl, by rw [cell_of_row w p 3 _ _ _ hv]; rfl, by rw [cell_of_row w p 4 _ _ _ hv]; rfl⟩
theorem SU.frozen (h : SU w B p d at_ f) (o : Nat) : w.frozen? ⟨p, o, none⟩ = false := by
  obtain ⟨v, hv, -⟩ := h.blk
  exact frozen_of_row w p o _ _ hv
/-- The slot, the text, the turn are stored. -/
theorem SU.store (h : SU w B p d at_ f) {x : Found} (hx : x.Fits) {u : Value} (hu : TX w u x.text) :
    SU (((w.setCell ⟨p, 2, none⟩ (.int .i64 (x.slot : Int))).setCell ⟨p, 3, none⟩ u).setCell ⟨p, 4, none⟩ (.int .i64 (x.turn : Int))) B p d at_ x ∧ Offs [p] w (((w.setCell ⟨p, 2, none⟩ (.int .i64 (x.slot : Int))).setCell ⟨p, 3, none⟩ u).setCell ⟨p, 4, none⟩ (.int .i64 (x.turn : Int))) := by
  obtain ⟨v, hv, ht⟩ := h.blk
  have ho : Offs [p] w (((w.setCell ⟨p, 2, none⟩ (.int .i64 (x.slot : Int))).setCell ⟨p, 3, none⟩ u).setCell ⟨p, 4, none⟩ (.int .i64 (x.turn : Int))) := (((Offs.refl [p] w).set (by simp) _ _).set (by simp) _ _).set (by simp) _ _
  refine ⟨⟨⟨u, ?_, hu.offs ho h.noBytes⟩, h.low, hx⟩, ho⟩
  rw [heap_set (heap_set (heap_set hv _ _) _ _) _ _]
  rfl
theorem DV.whole64 (k : DV w B d g n S L) {i : Nat} (hi : i < n) : (S i).now.length = 64 := (k.row.whole i hi).1
end

end Go.Proofs.YtnalokjnbccjnaaGreatDoor

namespace Go.Proofs.YtnalokjnbccjnaaGreatDoor
open Go.RowKit

/-- Of the blocks that there were only those of type t may be turned. -/
structure TF (t : TypeId) (w w' : World) : Prop where
  os : w'.os = w.os
  tape : w'.tape = w.tape
  output : w'.output = w.output
  size : w.heap.size ≤ w'.heap.size
  block : ∀ (k : Nat) (o : Obj), w.heap[k]? = some o → (∀ cs fr, o ≠ Obj.cells cs t fr) → w'.heap[k]? = some o
section
variable {t : TypeId} {w w' w'' : World}
theorem TF.refl (t : TypeId) (w : World) : TF t w w := ⟨rfl, rfl, rfl, Nat.le_refl _, fun _ _ h _ => h⟩
theorem TF.trans (h : TF t w w') (k : TF t w' w'') : TF t w w'' := ⟨k.os.trans h.os, k.tape.trans h.tape, k.output.trans h.output, Nat.le_trans h.size k.size, fun i o hi hn => k.block i o (h.block i o hi hn) hn⟩
theorem TF.of_below (h : Below w.heap.size w w') : TF t w w' := ⟨h.os, h.tape, h.output, h.size, fun k _ hk _ => (h.block k (Array.getElem?_eq_some_iff.1 hk).1).trans hk⟩
theorem TF.of_grown {B s m : Nat} {v : Value} {xs : List Value} (h : w.ownsRow B t s v m xs) (hg : w.grownBy w' v.ownBlock) : TF t w w' :=
  ⟨hg.os, hg.tape, hg.output, hg.size, fun k o hk hn => (hg.block k (Array.getElem?_eq_some_iff.1 hk).1 (fun e => by
    rcases h.2 with ⟨rfl, -⟩ | ⟨g, cap, cur, rfl, -, hg2, -⟩
    · cases e
    · simp only [Value.ownBlock, Option.some.injEq] at e
      subst e
      rw [hk] at hg2
      cases hg2
      exact hn _ _ rfl)).trans hk⟩
theorem TF.cells {k : Nat} {cs : Array Value} {e : TypeId} {fr : Nat × Nat} (h : TF t w w') (hk : w.heap[k]? = some (.cells cs e fr)) (he : e ≠ t) : w'.heap[k]? = some (.cells cs e fr) := h.block k _ hk (fun _ _ e2 => he (by cases e2; rfl))
theorem TF.row {e : TypeId} {B s m : Nat} {v : Value} {xs : List Value} (h : TF t w w') (hr : w.ownsRow B e s v m xs) (he : e ≠ t) : w'.ownsRow B e s v m xs := row_keep hr fun _ _ _ _ hk => (h.cells hk he).trans hk.symm
end

/-- s, a *store.Store: its device at d, its super at p, its files, its list's sectors; all of it lies from block B on. -/
structure ST (w : World) (B s d p : Nat) (es : List EntT) (ls : List Nat) (down : Bool) : Prop where
  blk : ∃ vf vl, w.heap[s]? = some (.cells #[.pointer (some ⟨d, 0, none⟩), .pointer (some ⟨p, 0, none⟩), vf, vl, .bool down] 73) ∧ OwnE w B vf es ∧ OwnV 3 w B vl (zi .i64 ls)
  low : B ≤ s
section
variable {w w' : World} {B s d p : Nat} {es : List EntT} {ls : List Nat} {down : Bool}
theorem ST.lt (h : ST w B s d p es ls down) : s < w.heap.size := by
  obtain ⟨vf, vl, hv, -⟩ := h.blk
  exact (Array.getElem?_eq_some_iff.1 hv).1
theorem ST.mono {B' : Nat} (h : ST w B s d p es ls down) (hB : B' ≤ B) : ST w B' s d p es ls down := by
  obtain ⟨vf, vl, h1, h2, h3⟩ := h.blk
  exact ⟨⟨vf, vl, h1, h2.mono hB, h3.mono hB⟩, Nat.le_trans hB h.low⟩
theorem ST.below (h : ST w B s d p es ls down) (hb : Below w.heap.size w w') : ST w' B s d p es ls down := by
  obtain ⟨vf, vl, h1, h2, h3⟩ := h.blk
  exact ⟨⟨vf, vl, (hb.block s h.lt).trans h1, h2.below hb, h3.below hb⟩, h.low⟩
/-- None of the blocks of l is one of the store's. -/
def NoStore (w : World) (l : List Nat) : Prop := ∀ k, k ∈ l → ∀ cs t fr, w.heap[k]? = some (.cells cs t fr) → t ≠ 73 ∧ t ≠ 98 ∧ t ≠ 3
theorem ST.offs {l : List Nat} (h : ST w B s d p es ls down) (hk : Offs l w w') (hn : NoStore w l) : ST w' B s d p es ls down := by
  obtain ⟨vf, vl, h1, h2, h3⟩ := h.blk
  have hb : ∀ (k : Nat) (cs : Array Value) (t : TypeId) (fr : Nat × Nat), w.heap[k]? = some (Obj.cells cs t fr) → (t = 73 ∨ t = 98 ∨ t = 3) → w'.heap[k]? = w.heap[k]? := fun k cs t fr hc ht => hk.block k (Array.getElem?_eq_some_iff.1 hc).1 (fun hm => by
    obtain ⟨a, b, c⟩ := hn k hm cs t fr hc
    rcases ht with ht | ht | ht
    · exact a ht
    · exact b ht
    · exact c ht)
  exact ⟨⟨vf, vl, (hb s _ _ _ h1 (.inl rfl)).trans h1, row_keep h2 fun k _ _ _ hc => hb k _ _ _ hc (.inr (.inl rfl)), row_keep h3 fun k _ _ _ hc => hb k _ _ _ hc (.inr (.inr rfl))⟩, h.low⟩
theorem cell_of5 {w : World} {k : Nat} {a b c d e : Value} {t : TypeId} {fr : Nat × Nat} (h : w.heap[k]? = some (.cells #[a, b, c, d, e] t fr)) : w.cell? ⟨k, 0, none⟩ = some a ∧ w.cell? ⟨k, 1, none⟩ = some b ∧ w.cell? ⟨k, 2, none⟩ = some c ∧ w.cell? ⟨k, 3, none⟩ = some d ∧ w.cell? ⟨k, 4, none⟩ = some e :=
  ⟨by rw [cell_of_row w k 0 _ _ _ h]; rfl, by rw [cell_of_row w k 1 _ _ _ h]; rfl, by rw [cell_of_row w k 2 _ _ _ h]; rfl, by rw [cell_of_row w k 3 _ _ _ h]; rfl, by rw [cell_of_row w k 4 _ _ _ h]; rfl⟩
/-- Its block and its rows. -/
theorem ST.open (h : ST w B s d p es ls down) : ∃ a1 c1 a2 c2, w.heap[s]? = some (.cells #[.pointer (some ⟨d, 0, none⟩), .pointer (some ⟨p, 0, none⟩), .slice a1 es.length c1, .slice a2 ls.length c2, .bool down] 73) ∧ OwnE w B (.slice a1 es.length c1) es ∧ OwnV 3 w B (.slice a2 ls.length c2) (zi .i64 ls) := by
  obtain ⟨vf, vl, h1, h2, h3⟩ := h.blk
  obtain ⟨a1, c1, e1, -⟩ := h2.re.form
  obtain ⟨a2, c2, e2, -⟩ := h3.rv.form
  rw [zi_length] at e2
  subst e1 e2
  exact ⟨a1, c1, a2, c2, h1, h2, h3⟩
theorem ST.cells (h : ST w B s d p es ls down) : ∃ a1 n1 c1 a2 n2 c2, OwnE w B (.slice a1 n1 c1) es ∧ OwnV 3 w B (.slice a2 n2 c2) (zi .i64 ls) ∧ w.cell? ⟨s, 0, none⟩ = some (.pointer (some ⟨d, 0, none⟩)) ∧ w.cell? ⟨s, 1, none⟩ = some (.pointer (some ⟨p, 0, none⟩)) ∧ w.cell? ⟨s, 2, none⟩ = some (.slice a1 n1 c1) ∧ w.cell? ⟨s, 3, none⟩ = some (.slice a2 n2 c2) ∧ w.cell? ⟨s, 4, none⟩ = some (.bool down) ∧ n1 = es.length ∧ n2 = ls.length := by
  obtain ⟨vf, vl, h1, h2, h3⟩ := h.blk
  obtain ⟨a1, c1, e1, -⟩ := h2.re.form
  obtain ⟨a2, c2, e2, -⟩ := h3.rv.form
  rw [zi_length] at e2
  subst e1 e2
  exact ⟨a1, _, c1, a2, _, c2, h2, h3, by rw [cell_of_row w s 0 _ _ _ h1]; rfl, by rw [cell_of_row w s 1 _ _ _ h1]; rfl, by rw [cell_of_row w s 2 _ _ _ h1]; rfl, by rw [cell_of_row w s 3 _ _ _ h1]; rfl, by rw [cell_of_row w s 4 _ _ _ h1]; rfl, rfl, rfl⟩
end

/-- The two rooms: n sectors, those of U are held. -/
structure RO (w : World) (B rf rl n : Nat) (vf vl : Value) (U : List Nat) : Prop where
  f : RM w B rf 2 (n - 14) vf (gF n U)
  l : RM w B rl (n - 12) 12 vl (gL n U)
  ap : vf.ownBlock = none ∨ vf.ownBlock ≠ vl.ownBlock
  n0 : 64 ≤ n
  n1 : n ≤ 2048
section
variable {w w' : World} {B rf rl n : Nat} {vf vl : Value} {U V : List Nat}
theorem RO.below (h : RO w B rf rl n vf vl U) (hb : Below w.heap.size w w') : RO w' B rf rl n vf vl U := ⟨h.f.below hb, h.l.below hb, h.ap, h.n0, h.n1⟩
theorem RO.toF (h : RO w B rf rl n vf vl U) (hg : w.grownBy w' vf.ownBlock) (hr : RM w' B rf 2 (n - 14) vf (gF n (U ++ V))) (hV : gL n (U ++ V) = gL n U) : RO w' B rf rl n vf vl (U ++ V) := by
  refine ⟨hr, ?_, h.ap, h.n0, h.n1⟩
  rw [hV]
  refine h.l.kept hg (h.f.notBlk h.l.blk (by decide)) ?_
  rcases h.ap with e | e
  · exact .inr (by
      rw [e]
      intro e2
      have hl := h.l.row.2
      rcases hl with ⟨-, h0⟩ | ⟨g, cap, cur, rfl, -⟩
      · rw [zf_length] at h0; omega
      · cases e2)
  · exact .inr (Ne.symm e)
theorem RO.toL (h : RO w B rf rl n vf vl U) (hg : w.grownBy w' vl.ownBlock) (hr : RM w' B rl (n - 12) 12 vl (gL n (U ++ V))) (hV : gF n (U ++ V) = gF n U) : RO w' B rf rl n vf vl (U ++ V) := by
  refine ⟨?_, hr, h.ap, h.n0, h.n1⟩
  rw [hV]
  exact h.f.kept hg (h.l.notBlk h.f.blk (by decide)) h.ap
theorem RO.belF (h : RO w B rf rl n vf vl U) (hg : w.grownBy w' vf.ownBlock) (hB : B ≤ w.heap.size) : Below B w w' := h.f.belowOf hg hB
theorem RO.belL (h : RO w B rf rl n vf vl U) (hg : w.grownBy w' vl.ownBlock) (hB : B ≤ w.heap.size) : Below B w w' := h.l.belowOf hg hB
theorem RO.tfF (h : RO w B rf rl n vf vl U) (hg : w.grownBy w' vf.ownBlock) : TF 4 w w' := TF.of_grown h.f.row hg
theorem RO.tfL (h : RO w B rf rl n vf vl U) (hg : w.grownBy w' vl.ownBlock) : TF 4 w w' := TF.of_grown h.l.row hg
end

end Go.Proofs.YtnalokjnbccjnaaGreatDoor

namespace Go.Proofs.YtnalokjnbccjnaaGreatDoor
open Go.RowKit

theorem cell_of4 {w : World} {k : Nat} {a b c d : Value} {t : TypeId} {fr : Nat × Nat} (h : w.heap[k]? = some (.cells #[a, b, c, d] t fr)) : w.cell? ⟨k, 0, none⟩ = some a ∧ w.cell? ⟨k, 1, none⟩ = some b ∧ w.cell? ⟨k, 2, none⟩ = some c ∧ w.cell? ⟨k, 3, none⟩ = some d :=
  ⟨by rw [cell_of_row w k 0 _ _ _ h]; rfl, by rw [cell_of_row w k 1 _ _ _ h]; rfl, by rw [cell_of_row w k 2 _ _ _ h]; rfl, by rw [cell_of_row w k 3 _ _ _ h]; rfl⟩
theorem cell_of2 {w : World} {k : Nat} {a b : Value} {t : TypeId} {fr : Nat × Nat} (h : w.heap[k]? = some (.cells #[a, b] t fr)) : w.cell? ⟨k, 0, none⟩ = some a ∧ w.cell? ⟨k, 1, none⟩ = some b :=
  ⟨by rw [cell_of_row w k 0 _ _ _ h]; rfl, by rw [cell_of_row w k 1 _ _ _ h]; rfl⟩

/-- The rooms as left's loops find them. -/
structure LF (w0 w : World) (rb rf rl n : Nat) (vf vl : Value) (U : List Nat) : Prop where
  ro : RO w w0.heap.size rf rl n vf vl U
  rb : w.heap[rb]? = some (.cells #[.pointer (some ⟨rf, 0, none⟩), .pointer (some ⟨rl, 0, none⟩)] 92)
  res : w.heap[w0.heap.size]? = some (.cells #[.pointer none, .pointer none] 92)
  bel : Below w0.heap.size w0 w
theorem LF.below {w0 w w' : World} {rb rf rl n : Nat} {vf vl : Value} {U : List Nat} (h : LF w0 w rb rf rl n vf vl U) (hb : Below w.heap.size w w') : LF w0 w' rb rf rl n vf vl U :=
  ⟨h.ro.below hb, (hb.block rb (Array.getElem?_eq_some_iff.1 h.rb).1).trans h.rb, (hb.block _ (Array.getElem?_eq_some_iff.1 h.res).1).trans h.res, below_to h.bel (Nat.le_refl _) hb⟩
theorem LF.useF {w0 w w' : World} {rb rf rl n : Nat} {vf vl : Value} {U V : List Nat} (h : LF w0 w rb rf rl n vf vl U) (hg : w.grownBy w' vf.ownBlock) (hr : RM w' w0.heap.size rf 2 (n - 14) vf (gF n (U ++ V))) (hV : gL n (U ++ V) = gL n U) : LF w0 w' rb rf rl n vf vl (U ++ V) :=
  ⟨h.ro.toF hg hr hV, (h.ro.tfF hg).cells h.rb (by decide), (h.ro.tfF hg).cells h.res (by decide), h.bel.trans (h.ro.belF hg h.bel.size)⟩
theorem LF.useL {w0 w w' : World} {rb rf rl n : Nat} {vf vl : Value} {U V : List Nat} (h : LF w0 w rb rf rl n vf vl U) (hg : w.grownBy w' vl.ownBlock) (hr : RM w' w0.heap.size rl (n - 12) 12 vl (gL n (U ++ V))) (hV : gF n (U ++ V) = gF n U) : LF w0 w' rb rf rl n vf vl (U ++ V) :=
  ⟨h.ro.toL hg hr hV, (h.ro.tfL hg).cells h.rb (by decide), (h.ro.tfL hg).cells h.res (by decide), h.bel.trans (h.ro.belL hg h.bel.size)⟩

section
variable {w : World} {B B' s d p g n : Nat} {S : Nat → Sec} {L : Life} {es : List EntT} {ls : List Nat} {down : Bool}
set_option maxHeartbeats 4000000 in
set_option maxRecDepth 100000 in
theorem left_c (hs : ST w B s d p es ls down) (hd : DV w B' d g n S L) (hn : 64 ≤ n) (hu : UsedOk n es ls) :
    Calls Tryz.prog 43 #[.pointer (some ⟨s, 0, none⟩)] w fun e w' => ∃ rf rl vf vl, e = .returned (.tuple #[.agg #[.pointer (some ⟨rf, 0, none⟩), .pointer (some ⟨rl, 0, none⟩)], .bool true]) ∧ RO w' w.heap.size rf rl n vf vl (usedL es ls) ∧ Below w.heap.size w w' := by
  have hn1 := hd.n1
  have HU := Go.Lib.hid hu
  have HS := Go.Lib.hid hs
  have HD := Go.Lib.hid hd
  have hb0 := Go.Lib.hid (newB w (.cells #[.pointer none, .pointer none] 92))
  have hnew := Go.Lib.hid (heap_alloc_new w (.cells #[.pointer none, .pointer none] 92))
  have C1 := Go.Lib.hid (dlen_c (hd.below hb0.out))
  obtain ⟨a1, q1, a2, q2, hblk, ho1, ho2⟩ := hs.open
  obtain ⟨c0, -, -, -, -⟩ := cell_of5 ((hb0.out.block s hs.lt).trans hblk)
  obtain ⟨-, -, -, hesl⟩ := ho1.re.form
  obtain ⟨-, -, -, hlsl⟩ := ho2.rv.form
  rw [zi_length] at hlsl
  have HK := Go.Lib.hid hblk
  have HLT := Go.Lib.hid hs.lt
  have H1 := Go.Lib.hid ho1
  have H2 := Go.Lib.hid ho2
  have C2 := Go.Lib.hid fun W => new_q W 2 (n - 14) 2 ((n : Int) - 14) _ rfl (by omega) (by omega) (by omega) (gF_nil n (by omega)).symm
  have C3 := Go.Lib.hid fun W => new_q W (n - 12) 12 ((n : Int) - 12) 12 _ (by omega) rfl (by omega) (by omega) (gL_nil n (by omega)).symm
  have k1 : IntKind.i64.wrap ((n : Int) - 12) = (n : Int) - 12 := by rw [IntKind.wrap_i64]; omega
  have k2 : IntKind.i64.wrap ((n : Int) - 12 - 2) = (n : Int) - 14 := by rw [IntKind.wrap_i64]; omega
  clear hu hs hd ho1 ho2 hblk
  go_enter Tryz.func43, Tryz.ntmps43
  go_wp2_with fail
  refine C1.out.mono ?_
  rintro e w1 ⟨rfl, rfl⟩
  go_wp2_with fail
  refine (C2.out _).mono ?_
  rintro e w2 ⟨rf, vf, rfl, hr2, hb2⟩
  have R2 := Go.Lib.hid hr2
  have N2 := Go.Lib.hid ((hb2.block _ (by simp)).trans hnew.out)
  have B2 := Go.Lib.hid (below_to hb0.out (Nat.le_refl _) hb2)
  clear hr2 hb2
  go_wp2_with fail
  refine (C3.out _).mono ?_
  rintro e w3 ⟨rl, vl, rfl, hr3, hb3⟩
  have R3 := Go.Lib.hid hr3
  have R2b := Go.Lib.hid (R2.out.below hb3)
  have N3 := Go.Lib.hid ((hb3.block _ (by have := (Array.getElem?_eq_some_iff.1 N2.out).1; omega)).trans N2.out)
  have B3 := Go.Lib.hid (below_to B2.out (Nat.le_refl _) hb3)
  clear hr3 hb3
  have B4 := Go.Lib.hid (newB w3 (.cells #[.pointer (some ⟨rf, 0, none⟩), .pointer (some ⟨rl, 0, none⟩)] 92))
  have HL0 : LF w (w3.alloc (.cells #[.pointer (some ⟨rf, 0, none⟩), .pointer (some ⟨rl, 0, none⟩)] 92)) w3.heap.size rf rl n vf vl (usedL [] []) := by
    refine ⟨?_, heap_alloc_new w3 _, (B4.out.block _ (Array.getElem?_eq_some_iff.1 N3.out).1).trans N3.out, below_to B3.out (Nat.le_refl _) B4.out⟩
    have hx := (R2.out.mono (B' := w.heap.size) (by simp))
    have hap : vf.ownBlock = none ∨ vf.ownBlock ≠ vl.ownBlock := by
      cases hv : vf.ownBlock with
      | none => exact .inl rfl
      | some k =>
        refine .inr fun e => ?_
        have h1 := World.ownsRow.lt R2.out.row k hv
        have h2 := World.ownsRow.lt R3.out.row k e.symm
        omega
    exact ⟨(R2b.out.mono (by simp)).below B4.out, (R3.out.mono B2.out.size).below B4.out, hap, hn, hn1⟩
  have HL := Go.Lib.hid HL0
  have HT := Go.Lib.hid HL0.bel
  obtain ⟨-, -, c2, -, -⟩ := cell_of5 ((HL0.bel.block s HLT.out).trans HK.out)
  clear HL0
  clear c0
  go_wp2_with fail
  clear c2
  go_loopw [6, 29] (fun ok i wr => ∃ k : Nat, k ≤ es.length ∧ ok = .bool true ∧ i = .int .i64 (k : Int) ∧ LF w wr w3.heap.size rf rl n vf vl (usedL (es.take k) [])) (fun _ i _ => es.length - (intOf i).toNat)
  case atStart => exact ⟨0, by omega, rfl, rfl, HL.out⟩
  case round =>
    obtain ⟨k, hk, rfl, rfl, hlf⟩ := hrel
    by_cases hlt : k < es.length
    · obtain ⟨b, o, rfl, -, hbs, x0, x1, x2, x3⟩ := (H1.out.re.below hlf.bel).at k hlt
      have hen := HU.out.entry hlt
      have htk : es.take (k + 1) = es.take k ++ [es[k]] := List.take_succ_eq_append_getElem hlt
      have hus := usedL_snoc (es.take k) es[k]
      rw [← htk] at hus
      have hnil := fun (h : es[k].2.2.2 ≤ 0) => spanE_nil (x := es[k]) h
      have hspan : spanE es[k] = rowL es[k].2.2.1.toNat es[k].2.2.2.toNat := rfl
      have hfi := HU.out.files es[k] (List.getElem_mem hlt)
      generalize es[k] = x at *
      obtain ⟨nm, en, ea, ess⟩ := x
      simp only [] at x0 x1 x2 x3 hen hnil hspan hfi
      have ha := newB wr (.cells #[.string nm, .int .i64 en, .int .i64 ea, .int .i64 ess] 98)
      have hlf2 := hlf.below ha
      have y := cell_of4 (heap_alloc_new wr (.cells #[.string nm, .int .i64 en, .int .i64 ea, .int .i64 ess] 98))
      obtain ⟨y0, y1, y2, y3⟩ := y
      obtain ⟨z0, z1⟩ := cell_of2 hlf2.rb
      have HF := Go.Lib.hid hlf2
      have HLT2 := Go.Lib.hid hlt
      have HUS := Go.Lib.hid hus
      clear hlf hlf2 ha htk hus hk
      by_cases hpos : 0 < ess
      · have hfit := (fitsF_iff (by omega)).1 (hen hpos)
        have hG := gF_use n (usedL (es.take k) []) ea.toNat ess.toNat
        have CU := Go.Lib.hid (use_q HF.out.ro.f ea.toNat ess.toNat ea ess _ (by have := hfi hpos; omega) (by omega) (by omega) hfit hG)
        have hgL := Go.Lib.hid (gL_far n (usedL (es.take k) []) (rowL ea.toNat ess.toNat) (fun i hi => by have h1 := mem_rowL.1 hi; have := hfi hpos; left; omega))
        have HSP := Go.Lib.hid hspan
        clear hfit hG hen hnil hfi hspan
        go_wp2_with fail
        refine CU.out.mono ?_
        rintro e w5 ⟨rfl, hr5, hg5⟩
        have HF5 := Go.Lib.hid (HF.out.useF hg5 hr5 hgL.out)
        clear hr5 hg5
        go_wp2_with fail
        go_roundw
        case rel => exact ⟨k + 1, by have := HLT2.out; omega, rfl, by go_num, by rw [HUS.out, HSP.out]; exact HF5.out⟩
        case measure => simp only [intOf]; have := HLT2.out; omega
      · have HNL := Go.Lib.hid (hnil (by omega))
        clear hen hnil hfi hspan
        go_wp2_with fail
        go_roundw
        case rel => exact ⟨k + 1, by have := HLT2.out; omega, rfl, by go_num, by rw [HUS.out, HNL.out, List.append_nil]; exact HF.out⟩
        case measure => simp only [intOf]; have := HLT2.out; omega
    · obtain rfl : k = es.length := by omega
      rw [List.take_of_length_le (Nat.le_refl _)] at hlf
      have HLF := Go.Lib.hid hlf
      obtain ⟨-, -, -, c3, -⟩ := cell_of5 ((hlf.bel.block s HLT.out).trans HK.out)
      clear hlf hk hlt
      go_wp2_with fail
      clear c3
      go_loopw [6, 51] (fun ok i wr => ∃ k : Nat, k ≤ ls.length ∧ ok = .bool true ∧ i = .int .i64 (k : Int) ∧ LF w wr w3.heap.size rf rl n vf vl (usedL es (ls.take k))) (fun _ i _ => ls.length - (intOf i).toNat)
      case atStart => exact ⟨0, by omega, rfl, rfl, HLF.out⟩
      case round =>
        obtain ⟨k, hk, rfl, rfl, hlf⟩ := hrel
        by_cases hlt : k < ls.length
        · obtain ⟨b, o, rfl, x0, hbs⟩ := (H2.out.rv.below hlf.bel).at k (by rw [zi_length]; exact hlt)
          rw [zi_at _ _ _ hlt] at x0
          have hno := HU.out.sector hlt
          have hin := HU.out.list ls[k] (List.getElem_mem hlt)
          have htk := usedL_list es (ls.take k) ls[k]
          rw [← List.take_succ_eq_append_getElem hlt] at htk
          generalize ls[k] = i at *
          have ha := newB wr (.cells #[.int .i64 (i : Int), .int .i64 1] 96)
          have hlf2 := hlf.below ha
          obtain ⟨y0, y1⟩ := cell_of2 (heap_alloc_new wr (.cells #[.int .i64 (i : Int), .int .i64 1] 96))
          obtain ⟨z0, z1⟩ := cell_of2 hlf2.rb
          have HF := Go.Lib.hid hlf2
          have HLT2 := Go.Lib.hid hlt
          have HUS := Go.Lib.hid htk
          clear hlf hlf2 ha htk hk
          by_cases hfar : n - 12 ≤ i
          · have hall : allF (gL n (usedL es (ls.take k))) i 1 := fun j j1 j2 => by
              obtain rfl : j = i := by omega
              exact gL_iff.2 ⟨hfar, hin.2, hno⟩
            have CU := Go.Lib.hid (use_q HF.out.ro.l i 1 (i : Int) 1 _ rfl rfl (by omega) hall (gL_one n (usedL es (ls.take k)) i))
            have hgF := Go.Lib.hid (gF_far n (usedL es (ls.take k)) [i] (fun j hj => by obtain rfl := List.mem_singleton.1 hj; right; exact hfar))
            clear hall hno
            go_wp2_with fail
            refine CU.out.mono ?_
            rintro e w5 ⟨rfl, hr5, hg5⟩
            have HF5 := Go.Lib.hid (HF.out.useL hg5 hr5 hgF.out)
            clear hr5 hg5
            go_wp2_with fail
            go_roundw
            case rel => exact ⟨k + 1, by have := HLT2.out; omega, rfl, by go_num, by rw [HUS.out]; exact HF5.out⟩
            case measure => simp only [intOf]; have := HLT2.out; omega
          · have hall : allF (gF n (usedL es (ls.take k))) i 1 := fun j j1 j2 => by
              obtain rfl : j = i := by omega
              exact gF_iff.2 ⟨hin.1, by omega, hno⟩
            have CN := Go.Lib.hid (useno_q HF.out.ro.l (i : Int) 1 (by omega) (by omega) (by unfold mayTurn; omega))
            have CU := Go.Lib.hid fun (W : World) (hW : Below (wr.alloc (.cells #[.int .i64 (i : Int), .int .i64 1] 96)).heap.size (wr.alloc (.cells #[.int .i64 (i : Int), .int .i64 1] 96)) W) => use_q (HF.out.below hW).ro.f i 1 (i : Int) 1 _ rfl rfl (by omega) hall (gF_one n (usedL es (ls.take k)) i)
            have hgL := Go.Lib.hid (gL_far n (usedL es (ls.take k)) [i] (fun j hj => by obtain rfl := List.mem_singleton.1 hj; left; omega))
            have ZZ := Go.Lib.hid (And.intro y0 (And.intro y1 (And.intro z0 z1)))
            clear hall hno
            go_wp2_with fail
            refine CN.out.mono ?_
            rintro e w5 ⟨rfl, hb5⟩
            have HB5 := Go.Lib.hid hb5
            have u0 := (hb5.cell (World.block_lt_of_cell? _ _ ZZ.out.1)).trans ZZ.out.1
            have u1 := (hb5.cell (World.block_lt_of_cell? _ _ ZZ.out.2.1)).trans ZZ.out.2.1
            have u2 := (hb5.cell (World.block_lt_of_cell? _ _ ZZ.out.2.2.1)).trans ZZ.out.2.2.1
            clear hb5 y0 y1 z0 z1 x0
            go_wp2_with fail
            refine (CU.out _ HB5.out).mono ?_
            rintro e w6 ⟨rfl, hr6, hg6⟩
            have HF6 := Go.Lib.hid ((HF.out.below HB5.out).useF hg6 hr6 hgL.out)
            clear hr6 hg6 u0 u1 u2
            go_wp2_with fail
            go_roundw
            case rel => exact ⟨k + 1, by have := HLT2.out; omega, rfl, by go_num, by rw [HUS.out]; exact HF6.out⟩
            case measure => simp only [intOf]; have := HLT2.out; omega
        · obtain rfl : k = ls.length := by omega
          rw [List.take_of_length_le (Nat.le_refl _)] at hlf
          obtain ⟨z0, z1⟩ := cell_of2 hlf.rb
          obtain ⟨u0, u1⟩ := cell_of2 hlf.res
          have f0 : wr.frozen? ⟨w.heap.size, 0, none⟩ = false := frozen_of_row wr w.heap.size 0 _ _ hlf.res
          have f1 : wr.frozen? ⟨w.heap.size, 1, none⟩ = false := frozen_of_row wr w.heap.size 1 _ _ hlf.res
          have HLE := Go.Lib.hid hlf
          clear hlf hk hlt
          go_wp2_with fail
          have hfin := heap_set (heap_set HLE.out.res 0 (.pointer (some ⟨rf, 0, none⟩))) 1 (.pointer (some ⟨rl, 0, none⟩))
          have hse : ((wr.setCell ⟨w.heap.size, 0, none⟩ (.pointer (some ⟨rf, 0, none⟩))).setCell ⟨w.heap.size, 1, none⟩ (.pointer (some ⟨rl, 0, none⟩))).heap.size = wr.heap.size := by simp [World.setCell]
          have hblks : ∀ k, k ≠ w.heap.size → ((wr.setCell ⟨w.heap.size, 0, none⟩ (.pointer (some ⟨rf, 0, none⟩))).setCell ⟨w.heap.size, 1, none⟩ (.pointer (some ⟨rl, 0, none⟩))).heap[k]? = wr.heap[k]? := fun k hk => (Below.heap_setCell _ _ _ _ hk).trans (Below.heap_setCell _ _ _ _ hk)
          have hro := HLE.out.ro
          have hne : ∀ {t : TypeId} {cs : Array Value} {fr : Nat × Nat} {k : Nat}, wr.heap[k]? = some (.cells cs t fr) → t ≠ 92 → k ≠ w.heap.size := fun h ht e => by
            subst e
            rw [HLE.out.res] at h
            simp only [Option.some.injEq, Obj.cells.injEq] at h
            exact ht h.2.1.symm
          have hro2 : RO ((wr.setCell ⟨w.heap.size, 0, none⟩ (.pointer (some ⟨rf, 0, none⟩))).setCell ⟨w.heap.size, 1, none⟩ (.pointer (some ⟨rl, 0, none⟩))) w.heap.size rf rl n vf vl (usedL es ls) :=
            ⟨⟨(hblks rf (hne hro.f.blk (by decide))).trans hro.f.blk, row_keep hro.f.row fun k _ _ _ hk => hblks k (hne hk (by decide)), hro.f.low, hro.f.out, hro.f.small⟩,
             ⟨(hblks rl (hne hro.l.blk (by decide))).trans hro.l.blk, row_keep hro.l.row fun k _ _ _ hk => hblks k (hne hk (by decide)), hro.l.low, hro.l.out, hro.l.small⟩, hro.ap, hro.n0, hro.n1⟩
          refine bodyPost_ret (results_row_one (p := 2) (u := 3) (ty := 92) rfl _ _ w.heap.size 92 #[.pointer (some ⟨rf, 0, none⟩), .pointer (some ⟨rl, 0, none⟩)] (0, 0) _ rfl hfin Tryz.underlying92 rfl (by kernel_rfl)) rfl ?_
          exact ⟨rf, rl, vf, vl, rfl, hro2, (HLE.out.bel.setCell (p := ⟨w.heap.size, 0, none⟩) (Nat.le_refl _) _).setCell (p := ⟨w.heap.size, 1, none⟩) (Nat.le_refl _) _⟩
end

end Go.Proofs.YtnalokjnbccjnaaGreatDoor

namespace Go.Proofs.YtnalokjnbccjnaaGreatDoor
open Go.RowKit

theorem snoc_ind {α : Type} {p : List α → Prop} (h0 : p []) (h1 : ∀ l x, p l → p (l ++ [x])) : ∀ l, p l := fun l => by
  have h : ∀ (n : Nat) (l : List α), l.length = n → p l := by
    intro n
    induction n with
    | zero => intro l hl; rw [List.eq_nil_of_length_eq_zero hl]; exact h0
    | succ n ih =>
      intro l hl
      rcases List.eq_nil_or_concat l with rfl | ⟨m, x, rfl⟩
      · simp at hl
      · rw [List.concat_eq_append] at hl ⊢
        exact h1 m x (ih m (by simpa using hl))
  exact h _ l rfl
/-- The shortest row that has m. -/
def bestF (m : Nat) (l : List (Nat × Nat)) : Nat × Nat := l.foldl (fun b x => if m ≤ x.2 ∧ (b.2 = 0 ∨ x.2 < b.2) then x else b) (0, 0)
theorem bestF_snoc (m : Nat) (l : List (Nat × Nat)) (x : Nat × Nat) : bestF m (l ++ [x]) = if m ≤ x.2 ∧ ((bestF m l).2 = 0 ∨ x.2 < (bestF m l).2) then x else bestF m l := by
  unfold bestF
  rw [List.foldl_append]
  rfl
theorem bestF_spec (m : Nat) (_hm : 0 < m) (l : List (Nat × Nat)) : (bestF m l = (0, 0) ∧ ∀ x ∈ l, x.2 < m) ∨ (bestF m l ∈ l ∧ m ≤ (bestF m l).2) := by
  refine snoc_ind (p := fun l => (bestF m l = (0, 0) ∧ ∀ x ∈ l, x.2 < m) ∨ (bestF m l ∈ l ∧ m ≤ (bestF m l).2)) ?_ ?_ l
  · exact .inl ⟨rfl, fun x hx => absurd hx (by simp)⟩
  · intro l x ih
    rw [bestF_snoc]
    by_cases h : m ≤ x.2 ∧ ((bestF m l).2 = 0 ∨ x.2 < (bestF m l).2)
    · rw [if_pos h]
      exact .inr ⟨by simp, h.1⟩
    · rw [if_neg h]
      rcases ih with ⟨h1, h2⟩ | ⟨h1, h2⟩
      · refine .inl ⟨h1, fun y hy => ?_⟩
        rcases List.mem_append.1 hy with hy | hy
        · exact h2 y hy
        · obtain rfl := List.mem_singleton.1 hy
          rw [h1] at h
          simp at h
          omega
      · exact .inr ⟨List.mem_append_left _ h1, h2⟩
theorem bestF_le (m : Nat) (l : List (Nat × Nat)) {K : Nat} (h : ∀ x ∈ l, x.1 + x.2 ≤ K) : (bestF m l).1 + (bestF m l).2 ≤ K := by
  revert h
  refine snoc_ind (p := fun l => (∀ x ∈ l, x.1 + x.2 ≤ K) → (bestF m l).1 + (bestF m l).2 ≤ K) ?_ ?_ l
  · intro _; simp [bestF]
  · intro l x ih h
    rw [bestF_snoc]
    split
    · exact h x (by simp)
    · exact ih fun y hy => h y (List.mem_append_left _ hy)

theorem grow_set {w0 w : World} {k : Nat} (h : w0.grownBy w (some k)) (o : Nat) (u : Value) : w0.grownBy (w.setCell ⟨k, o, none⟩ u) (some k) :=
  ⟨h.os, h.tape, h.output, by simpa [World.setCell] using h.size, fun j hj hne => (Below.heap_setCell _ _ _ _ (by rintro rfl; exact hne rfl)).trans (h.block j hj hne)⟩
/-- What stands between Use and the store. -/
structure TG (w0 : World) (B rf rl n : Nat) (vf vl : Value) (U V : List Nat) (P M : Int) (b2 b4 b6 : Nat) (d4 d5 : Bool) (w : World) : Prop where
  ro : RO w B rf rl n vf vl (if d4 = true then U ++ V else U)
  gr : w0.grownBy w vf.ownBlock
  k2 : w.heap[b2]? = some (.cells #[.pointer (some ⟨rf, 0, none⟩), .pointer (some ⟨rl, 0, none⟩)] 92)
  k4 : w.heap[b4]? = some (.cells (if d5 = true then #[.int .i64 P, .int .i64 M] else #[.int .i64 0, .int .i64 0]) 96)
  k6 : w.heap[b6]? = some (.cells #[.int .i64 P, .int .i64 M] 96)
section
variable {w0 W W' : World} {B rf rl n : Nat} {vf vl : Value} {U V : List Nat} {P M : Int} {b2 b4 b6 : Nat} {d4 d5 : Bool} {done : Nat → Bool}
theorem TG.drew (h : TG w0 B rf rl n vf vl U V P M b2 b4 b6 d4 d5 W) : TG w0 B rf rl n vf vl U V P M b2 b4 b6 d4 d5 W.drew := ⟨h.ro.below ⟨rfl, rfl, rfl, Nat.le_refl _, fun _ _ => rfl⟩, ⟨h.gr.os, h.gr.tape, h.gr.output, h.gr.size, h.gr.block⟩, h.k2, h.k4, h.k6⟩
theorem TG.keep (h : TG w0 B rf rl n vf vl U V P M b2 b4 b6 (done 4) (done 5) W) (i : Nat) (h4 : 4 ≠ i) (h5 : 5 ≠ i) : TG w0 B rf rl n vf vl U V P M b2 b4 b6 (doneToo done i 4) (doneToo done i 5) W := by
  rw [doneToo_other h4, doneToo_other h5]
  exact h
theorem TG.used (h : TG w0 B rf rl n vf vl U V P M b2 b4 b6 (done 4) (done 5) W) (hr : RO W' B rf rl n vf vl (U ++ V)) (hg : W.grownBy W' vf.ownBlock) (ht : TF 4 W W') : TG w0 B rf rl n vf vl U V P M b2 b4 b6 (doneToo done 4 4) (doneToo done 4 5) W' := by
  rw [doneToo_self, doneToo_other (by decide)]
  exact ⟨hr, grow_trans h.gr hg, ht.cells h.k2 (by decide), ht.cells h.k4 (by decide), ht.cells h.k6 (by decide)⟩
theorem RO.setRow {k : Nat} {cs : Array Value} {t : TypeId} {fr : Nat × Nat} (h : RO W B rf rl n vf vl U) (hk : W.heap[k]? = some (.cells cs t fr)) (h1 : t ≠ 4) (h2 : t ≠ 133) (cs' : Array Value) : RO (W.setRow k cs') B rf rl n vf vl U :=
  ⟨h.f.keptBlk hk h1 h2 (grow_row _ _ _), h.l.keptBlk hk h1 h2 (grow_row _ _ _), h.ap, h.n0, h.n1⟩
theorem TG.stored {cs : Array Value} (h : TG w0 B rf rl n vf vl U V P M b2 b4 b6 (done 4) (done 5) W) (hk : W.heap[b4]? = some (.cells cs 96)) (h2 : b2 ≠ b4) (h6 : b6 ≠ b4) (hb : w0.heap.size ≤ b4) : TG w0 B rf rl n vf vl U V P M b2 b4 b6 (doneToo done 5 4) (doneToo done 5 5) (W.setRow b4 #[.int .i64 P, .int .i64 M]) := by
  rw [doneToo_self, doneToo_other (by decide)]
  exact ⟨h.ro.setRow hk (by decide) (by decide) _, grow_setRow h.gr _ _ hb, (setRow_other _ _ _ _ h2).trans h.k2, setRow_heap _ _ _ _ _ (0, 0) hk, (setRow_other _ _ _ _ h6).trans h.k6⟩
end
def VG (b2 rf : Nat) (P M : Int) (r : Bool) : Nat → World → Value → Prop
  | 40, _, v => v = spanV P M
    | 41, _, v => v = .pointer (some ⟨b2, 0, none⟩)
  | 42, _, v => v = .pointer (some ⟨rf, 0, none⟩)
  | 43, _, v => v = spanV P M
  | 44, _, v => v = .bool r
  | 5, _, v => v = .bool r
  | _, _, _ => True
theorem VG_any (b2 rf : Nat) (P M : Int) (r : Bool) : ∀ (i : Nat) (w w' : World) (v : Value), VG b2 rf P M r i w v → VG b2 rf P M r i w' v := by
  intro i w w' v h
  unfold VG at h ⊢
  split at h <;> first | exact h | trivial

/-- Where takeFile finds m sectors; what it takes. -/
def tfA (n : Nat) (U : List Nat) (m : Nat) : Nat × Nat := bestF m (spS (gF n U) (2 + (n - 14)))
def tfV (n : Nat) (U : List Nat) (m : Nat) : List Nat := if (tfA n U m).2 = 0 then [] else rowL (tfA n U m).1 m
theorem gF_out (n : Nat) (U : List Nat) (hn : 14 ≤ n) : ∀ k, 2 + (n - 14) ≤ k → gF n U k = false := by
  intro k hk
  cases h : gF n U k with
  | false => rfl
  | true =>
    have := gF_iff.1 h
    omega
theorem tfA_yes {n : Nat} {U : List Nat} {m : Nat} (_hn : 14 ≤ n) (hm : 0 < m) (h : (tfA n U m).2 ≠ 0) : fitsF n U (tfA n U m).1 m ∧ min ((tfA n U m).2 : Int) (m : Int) = (m : Int) := by
  rcases bestF_spec m hm (spS (gF n U) (2 + (n - 14))) with ⟨h1, h2⟩ | ⟨h1, h2⟩
  · unfold tfA at h
    rw [h1] at h
    exact absurd rfl h
  · have hx := (spS_rows (gF n U) (2 + (n - 14))).each _ h1
    exact ⟨(fitsF_iff hm).2 fun k k1 k2 => hx.2.2.1 k k1 (by have := h2; unfold tfA at k2; omega), by unfold tfA; omega⟩
theorem tfA_no {n : Nat} {U : List Nat} {m : Nat} (hn : 14 ≤ n) (hm : 0 < m) (h : (tfA n U m).2 = 0) : ∀ a, ¬ fitsF n U a m := by
  intro a ha
  rcases bestF_spec m hm (spS (gF n U) (2 + (n - 14))) with ⟨h1, h2⟩ | ⟨h1, h2⟩
  · obtain ⟨x, hx, h3, h4⟩ := fit_in (f := gF n U) (m := 2 + (n - 14)) hm (gF_out n U hn) ((fitsF_iff hm).1 ha)
    have := h2 x hx
    omega
  · unfold tfA at h
    omega

section
variable {w : World} {B rf rl n : Nat} {vf vl : Value} {U : List Nat}
set_option maxHeartbeats 4000000 in
set_option maxRecDepth 100000 in
/-- The shortest row that has as many gives its first ones. -/
theorem takefile_c (h : RO w B rf rl n vf vl U) (m : Nat) (hm : 0 < m) (hm2 : m ≤ 100000) :
    Calls Tryz.prog 83 #[.agg #[.pointer (some ⟨rf, 0, none⟩), .pointer (some ⟨rl, 0, none⟩)], .int .i64 (m : Int)] w fun e w' => w.grownBy w' vf.ownBlock ∧ TF 4 w w' ∧
      e = .returned (.tuple #[spanV ((tfA n U m).1 : Int) (min ((tfA n U m).2 : Int) (m : Int)), .bool (decide ((tfA n U m).2 ≠ 0))]) ∧ RO w' B rf rl n vf vl (U ++ tfV n U m) := by
  have hb0 := ((newB w (.cells #[.pointer (some ⟨rf, 0, none⟩), .pointer (some ⟨rl, 0, none⟩)] 92)))
  have hb1 := below_to hb0 (Nat.le_refl _) (newB _ (.cells #[.int .i64 0, .int .i64 0] 96))
  have hb2 := below_to hb1 (Nat.le_refl _) (newB _ (.cells #[.int .i64 0, .int .i64 0] 96))
  obtain ⟨l, hl⟩ : ∃ l, spS (gF n U) (2 + (n - 14)) = l := ⟨_, rfl⟩
  have HTF := Go.Lib.hid (show tfA n U m = bestF m l from by unfold tfA; rw [hl])
  have C := Go.Lib.hid (spans_q (h.f.below hb2) l hl)
  have hrows := spS_rows (gF n U) (2 + (n - 14))
  rw [hl] at hrows
  have hle : l.length ≤ 100000 := by
    rw [← hl]
    have := spS_len (gF n U) (2 + (n - 14))
    have := h.n1
    omega
  have HR := Go.Lib.hid hrows
  have HFIT := Go.Lib.hid (fun a (ha : allF (gF n U) a m) => fit_in (f := gF n U) (m := 2 + (n - 14)) hm (fun k hk => h.f.out k (.inr hk)) ha)
  rw [hl] at HFIT
  have HH := Go.Lib.hid h
  have hsz : (((w.alloc (.cells #[.pointer (some ⟨rf, 0, none⟩), .pointer (some ⟨rl, 0, none⟩)] 92)).alloc (.cells #[.int .i64 0, .int .i64 0] 96)).alloc (.cells #[.int .i64 0, .int .i64 0] 96)).heap.size = w.heap.size + 3 := by simp
  have K2 : (((w.alloc (.cells #[.pointer (some ⟨rf, 0, none⟩), .pointer (some ⟨rl, 0, none⟩)] 92)).alloc (.cells #[.int .i64 0, .int .i64 0] 96)).alloc (.cells #[.int .i64 0, .int .i64 0] 96)).heap[w.heap.size]? = some (.cells #[.pointer (some ⟨rf, 0, none⟩), .pointer (some ⟨rl, 0, none⟩)] 92) :=
    ((newB _ _).block _ (by simp; omega)).trans (((newB _ _).block _ (by simp)).trans (heap_alloc_new w _))
  have K4 : (((w.alloc (.cells #[.pointer (some ⟨rf, 0, none⟩), .pointer (some ⟨rl, 0, none⟩)] 92)).alloc (.cells #[.int .i64 0, .int .i64 0] 96)).alloc (.cells #[.int .i64 0, .int .i64 0] 96)).heap[w.heap.size + 1]? = some (.cells #[.int .i64 0, .int .i64 0] 96) := by
    refine ((newB _ _).block _ (by simp)).trans ?_
    have := heap_alloc_new (w.alloc (.cells #[.pointer (some ⟨rf, 0, none⟩), .pointer (some ⟨rl, 0, none⟩)] 92)) (.cells #[.int .i64 0, .int .i64 0] 96)
    rwa [show (w.alloc (.cells #[.pointer (some ⟨rf, 0, none⟩), .pointer (some ⟨rl, 0, none⟩)] 92)).heap.size = w.heap.size + 1 from by simp] at this
  have K6 : (((w.alloc (.cells #[.pointer (some ⟨rf, 0, none⟩), .pointer (some ⟨rl, 0, none⟩)] 92)).alloc (.cells #[.int .i64 0, .int .i64 0] 96)).alloc (.cells #[.int .i64 0, .int .i64 0] 96)).heap[w.heap.size + 1 + 1]? = some (.cells #[.int .i64 0, .int .i64 0] 96) := by
    have := heap_alloc_new ((w.alloc (.cells #[.pointer (some ⟨rf, 0, none⟩), .pointer (some ⟨rl, 0, none⟩)] 92)).alloc (.cells #[.int .i64 0, .int .i64 0] 96)) (.cells #[.int .i64 0, .int .i64 0] 96)
    rwa [show ((w.alloc (.cells #[.pointer (some ⟨rf, 0, none⟩), .pointer (some ⟨rl, 0, none⟩)] 92)).alloc (.cells #[.int .i64 0, .int .i64 0] 96)).heap.size = w.heap.size + 1 + 1 from by simp] at this
  have HSZ := Go.Lib.hid hsz
  have HK2 := Go.Lib.hid K2
  have HK4 := Go.Lib.hid K4
  have HK6 := Go.Lib.hid K6
  have HB2 := Go.Lib.hid hb2
  have hc0 := cell_of2 K2
  obtain ⟨z0, -⟩ := hc0
  clear hb0 hb1 hb2 h hrows hl hsz K2 K4 K6
  go_enter Tryz.func83, Tryz.ntmps83
  go_wp2_with fail
  clear z0
  refine C.out.mono ?_
  rintro e w1 ⟨a1, c1, rfl, hown, hb⟩
  have J2 := Go.Lib.hid ((hb.block _ (by rw [HSZ.out]; omega)).trans HK2.out)
  have J4 := Go.Lib.hid ((hb.block _ (by rw [HSZ.out]; omega)).trans HK4.out)
  have J6 := Go.Lib.hid ((hb.block _ (by rw [HSZ.out]; omega)).trans HK6.out)
  have JB := Go.Lib.hid (below_to HB2.out (Nat.le_refl _) hb)
  rw [HSZ.out] at hown
  have HO := Go.Lib.hid hown
  have HS1 := Go.Lib.hid (show w.heap.size + 3 ≤ w1.heap.size from by have := hb.size; rw [HSZ.out] at this; exact this)
  clear hown hb C HK2 HK4 HK6 HB2 HSZ
  go_wp2_with fail
  go_loopw [13] (fun c wr => ∃ k : Nat, k ≤ l.length ∧ c = .int .i64 (k : Int) ∧ wr.heap[w.heap.size + 1 + 1]? = some (.cells #[.int .i64 ((bestF m (l.take k)).1 : Int), .int .i64 ((bestF m (l.take k)).2 : Int)] 96) ∧ w1.grownBy wr (some (w.heap.size + 1 + 1))) (fun c _ => l.length - (intOf c).toNat)
  case atStart => exact ⟨0, by omega, rfl, J6.out, World.grownBy.refl _ _⟩
  case round =>
    obtain ⟨k, hk, rfl, hbb, hg⟩ := hrel
    by_cases hlt : k < l.length
    · have hoR := World.ownsRow.kept HO.out hg (.inr (fun e => by have := World.ownsRow.lt HO.out _ e; omega))
      obtain ⟨g, rfl, -, x0, x1, -, -⟩ := OwnS.at hoR k hlt
      have htk := bestF_snoc m (l.take k) l[k]
      rw [← List.take_succ_eq_append_getElem hlt] at htk
      generalize l[k] = x at *
      generalize bestF m (l.take k) = bst at *
      have hal := newB wr (.cells #[.int .i64 (x.1 : Int), .int .i64 (x.2 : Int)] 96)
      have hb6 := (hal.block _ (Array.getElem?_eq_some_iff.1 hbb).1).trans hbb
      obtain ⟨y0, y1⟩ := cell_of2 (heap_alloc_new wr (.cells #[.int .i64 (x.1 : Int), .int .i64 (x.2 : Int)] 96))
      obtain ⟨u0, u1⟩ := cell_of2 hb6
      have f0 := frozen_of_row _ _ 0 _ _ hb6
      have f1 := frozen_of_row _ _ 1 _ _ hb6
      have hg2 := grow_trans hg (grow_below hal)
      have HT := Go.Lib.hid htk
      have HG2 := Go.Lib.hid hg2
      have HB6 := Go.Lib.hid hb6
      have HLT := Go.Lib.hid hlt
      clear hoR hal hg hg2 hbb hb6 htk hk
      by_cases q1 : m ≤ x.2
      · by_cases q2 : bst.2 = 0
        · rw [if_pos ⟨q1, .inl q2⟩] at HT
          rw [q2] at u1
          have p1 : (m : Int) ≤ (x.2 : Int) := by omega
          clear q1 q2
          go_wp2_with fail
          go_roundw
          case rel => exact ⟨k + 1, by have := HLT.out; omega, by go_num, by rw [HT.out]; exact heap_set (heap_set HB6.out 0 (.int .i64 (x.1 : Int))) 1 (.int .i64 (x.2 : Int)), grow_set (grow_set HG2.out _ _) _ _⟩
          case measure => simp only [intOf]; have := HLT.out; omega
        · have q2I : ¬ (bst.2 : Int) = 0 := by omega
          by_cases q3 : x.2 < bst.2
          · rw [if_pos ⟨q1, .inr q3⟩] at HT
            have p1 : (m : Int) ≤ (x.2 : Int) := by omega
            have p3 : (x.2 : Int) < (bst.2 : Int) := by omega
            clear q1 q2 q3
            go_wp2_with fail
            go_roundw
            case rel => exact ⟨k + 1, by have := HLT.out; omega, by go_num, by rw [HT.out]; exact heap_set (heap_set HB6.out 0 (.int .i64 (x.1 : Int))) 1 (.int .i64 (x.2 : Int)), grow_set (grow_set HG2.out _ _) _ _⟩
            case measure => simp only [intOf]; have := HLT.out; omega
          · rw [if_neg (by omega)] at HT
            have p1 : (m : Int) ≤ (x.2 : Int) := by omega
            have p3 : ¬ (x.2 : Int) < (bst.2 : Int) := by omega
            clear q1 q2 q3
            go_wp2_with fail
            go_roundw
            case rel => exact ⟨k + 1, by have := HLT.out; omega, by go_num, by rw [HT.out]; exact HB6.out, HG2.out⟩
            case measure => simp only [intOf]; have := HLT.out; omega
      · rw [if_neg (by omega)] at HT
        have p1 : ¬ (m : Int) ≤ (x.2 : Int) := by omega
        clear q1
        go_wp2_with fail
        go_roundw
        case rel => exact ⟨k + 1, by have := HLT.out; omega, by go_num, by rw [HT.out]; exact HB6.out, HG2.out⟩
        case measure => simp only [intOf]; have := HLT.out; omega
    · obtain rfl : k = l.length := by omega
      rw [List.take_of_length_le (Nat.le_refl _)] at hbb
      have hspec := bestF_spec m hm l
      have hle2 := bestF_le m l (K := 2 + (n - 14)) (fun x hx => (HR.out.each x hx).2.1)
      have hwb : Below w.heap.size w wr := JB.out.trans (⟨hg.os, hg.tape, hg.output, hg.size, fun j hj => hg.block j (by have := HS1.out; omega) (by simp; omega)⟩)
      have hro := HH.out.below hwb
      obtain ⟨y0, y1⟩ := cell_of2 hbb
      have f1 := frozen_of_row _ _ 1 _ _ hbb
      have k2 := (hg.block w.heap.size (by have := HS1.out; omega) (by simp; omega)).trans J2.out
      have k4 := (hg.block (w.heap.size + 1) (by have := HS1.out; omega) (by simp)).trans J4.out
      obtain ⟨P, M, r, V, hm1, hP, hCU, hend⟩ : ∃ (P M : Int) (r : Bool) (V : List Nat), min ((bestF m l).2 : Int) (m : Int) = M ∧ ((bestF m l).1 : Int) = P ∧
          (∀ W, RO W B rf rl n vf vl U → Calls Tryz.prog 69 #[.pointer (some ⟨rf, 0, none⟩), spanV P M] W fun e W' => e = .returned (.bool r) ∧ RO W' B rf rl n vf vl (U ++ V) ∧ W.grownBy W' vf.ownBlock ∧ TF 4 W W') ∧
          (r = decide ((bestF m l).2 ≠ 0) ∧ V = if (bestF m l).2 = 0 then [] else rowL (bestF m l).1 m) := by
        rcases hspec with ⟨h1, h2⟩ | ⟨h1, h2⟩
        · refine ⟨0, 0, false, [], by rw [h1]; show min ((0 : Nat) : Int) (m : Int) = 0; omega, by rw [h1]; rfl, fun W hW => ?_, by rw [h1]; simp, by rw [h1]; rfl⟩
          refine (useno_q hW.f 0 0 (by omega) (by omega) (by unfold mayTurn; omega)).mono ?_
          rintro e W' ⟨rfl, hb⟩
          rw [List.append_nil]
          exact ⟨rfl, hW.below hb, grow_below hb, TF.of_below hb⟩
        · have hx := HR.out.each _ h1
          have hall : allF (gF n U) (bestF m l).1 m := fun k k1 k2 => hx.2.2.1 k k1 (by omega)
          refine ⟨((bestF m l).1 : Int), (m : Int), true, rowL (bestF m l).1 m, by omega, rfl, fun W hW => ?_, by simp; omega, by rw [if_neg (by omega)]⟩
          refine (use_q hW.f (bestF m l).1 m _ _ _ rfl rfl hm hall (gF_use n U (bestF m l).1 m)).mono ?_
          rintro e W' ⟨rfl, hr, hg⟩
          exact ⟨rfl, hW.toF hg hr (gL_far n U _ (fun i hi => by have := mem_rowL.1 hi; have := hW.n0; left; omega)), hg, hW.tfF hg⟩
      have HCU := Go.Lib.hid hCU
      have HPM := Go.Lib.hid (And.intro hP hm1)
      have HEND := Go.Lib.hid hend
      have HRO := Go.Lib.hid hro
      have HG := Go.Lib.hid hg
      have HWB := Go.Lib.hid hwb
      have K2 := Go.Lib.hid k2
      have K4 := Go.Lib.hid k4
      have KB := Go.Lib.hid hbb
      rw [hP] at y0
      obtain ⟨L2, hL2⟩ : ∃ L2 : Int, ((bestF m l).2 : Int) = L2 := ⟨_, rfl⟩
      rw [hL2] at y1 hm1
      clear hL2 hspec hle2 hwb hro hg hCU hend k2 k4 hlt hk hbb
      go_upto_region 9 with (fail)
      have HT0 := Go.Lib.hid (show TG w B rf rl n vf vl U V P M w.heap.size (w.heap.size + 1) (w.heap.size + 1 + 1) false false (wr.setCell ⟨w.heap.size + 1 + 1, 1, none⟩ (.int .i64 M)) from by
        have hsb : ∀ j, j ≠ w.heap.size + 1 + 1 → (wr.setCell ⟨w.heap.size + 1 + 1, 1, none⟩ (.int .i64 M)).heap[j]? = wr.heap[j]? := fun j hj => Below.heap_setCell _ _ _ _ hj
        have hbs : Below w.heap.size w (wr.setCell ⟨w.heap.size + 1 + 1, 1, none⟩ (.int .i64 M)) := HWB.out.setCell (p := ⟨w.heap.size + 1 + 1, 1, none⟩) (by simp; omega) _
        refine ⟨HH.out.below hbs, grow_below hbs, (hsb _ (by omega)).trans K2.out, (hsb _ (by omega)).trans K4.out, ?_⟩
        have := heap_set KB.out 1 (.int .i64 M)
        rw [hP] at this
        exact this)
      clear y0 y1 f1 hm1 hP hm hm2 hle
      refine wp_region_inv (by kernel_rfl) (VG w.heap.size rf P M r) (fun done W => TG w B rf rl n vf vl U V P M w.heap.size (w.heap.size + 1) (w.heap.size + 1 + 1) (done 4) (done 5) W) (by decide +kernel) (by decide +kernel) (by rfl) [40, 41, 42, 43, 44, 5] (by rfl) HT0.out.drew ?_ ?_
      · intro i o ho a w6 done hI hnot hr hlen hg
        match i, ho with
        | 0, ho =>
          obtain rfl := Option.some.inj ho
          have h6 := given_old hg 6 (by decide +kernel)
          clear hg
          exact st_list ho (wanted_none rfl) fun Q' hQ => wpList_load_row rfl 96 (.tmp 6) rfl (w.heap.size + 1 + 1) (by simp [Act.eval, h6]) 96 _ (0, 0) _ hI.k6 Tryz.underlying96 rfl (by kernel_rfl) (wpList_nil (hQ _ _ ⟨_, rfl, hI.keep 0 (by decide) (by decide), fun t u h => VG_any _ _ _ _ _ t _ _ u h, by rintro t' ⟨⟩; rfl⟩))
        | 1, ho =>
          obtain rfl := Option.some.inj ho
          have h2 := given_old hg 2 (by decide +kernel)
          clear hg
          exact st_yield ho (wanted_none rfl) (.pointer (some ⟨w.heap.size, 0, none⟩)) w6 (by simp [execOp, Act.eval, h2, go_sem]) ⟨_, rfl, hI.keep 1 (by decide) (by decide), fun t u h => VG_any _ _ _ _ _ t _ _ u h, by rintro t' ⟨⟩; rfl⟩
        | 2, ho =>
          obtain rfl := Option.some.inj ho
          obtain ⟨_, h41, rfl⟩ := given_fed hg 41 (by decide +kernel)
          clear hg
          have hc := (cell_of2 hI.k2).1
          exact st_yield ho (wanted_none rfl) (.pointer (some ⟨rf, 0, none⟩)) w6 (by simp [execOp, Act.eval, h41, hc, go_sem]) ⟨_, rfl, hI.keep 2 (by decide) (by decide), fun t u h => VG_any _ _ _ _ _ t _ _ u h, by rintro t' ⟨⟩; rfl⟩
        | 3, ho =>
          obtain rfl := Option.some.inj ho
          have h6 := given_old hg 6 (by decide +kernel)
          clear hg
          exact st_list ho (wanted_none rfl) fun Q' hQ => wpList_load_row rfl 96 (.tmp 6) rfl (w.heap.size + 1 + 1) (by simp [Act.eval, h6]) 96 _ (0, 0) _ hI.k6 Tryz.underlying96 rfl (by kernel_rfl) (wpList_nil (hQ _ _ ⟨_, rfl, hI.keep 3 (by decide) (by decide), fun t u h => VG_any _ _ _ _ _ t _ _ u h, by rintro t' ⟨⟩; rfl⟩))
        | 4, ho =>
          obtain rfl := Option.some.inj ho
          obtain ⟨_, h42, rfl⟩ := given_fed hg 42 (by decide +kernel)
          obtain ⟨_, h43, rfl⟩ := given_fed hg 43 (by decide +kernel)
          clear hg
          have hro := hI.ro
          rw [hnot] at hro
          exact st_enter (w1 := w6) ho (wanted_none rfl) 69 #[.pointer (some ⟨rf, 0, none⟩), spanV P M] (by simp [execOp, Act.eval, h42, h43, resolve, go_sem]) ((HCU.out w6 hro).mono (by rintro e w7 ⟨rfl, hr7, hg7, ht7⟩; exact ⟨_, rfl, _, rfl, hI.used hr7 hg7 ht7, fun t u h => VG_any _ _ _ _ _ t _ _ u h, by rintro t' ⟨⟩; rfl⟩))
        | 5, ho =>
          obtain rfl := Option.some.inj ho
          have h4 := given_old hg 4 (by decide +kernel)
          obtain ⟨_, h40, rfl⟩ := given_fed hg 40 (by decide +kernel)
          clear hg
          have hk4 := hI.k4
          rw [hnot, if_neg (by decide)] at hk4
          exact st_list ho (wanted_none rfl) fun Q' hQ => wpList_store_row rfl 96 (.tmp 4) (.tmp 40) rfl (w.heap.size + 1) #[.int .i64 P, .int .i64 M] (by simp [Act.eval, h4]) (by simp [Act.eval, h40, spanV]) 96 _ hk4 (by kernel_rfl) rfl (all2 ..) (wpList_nil (hQ _ _ ⟨_, rfl, hI.stored hk4 (by omega) (by omega) (by omega), fun t u h => VG_any _ _ _ _ _ t _ _ u h, by rintro t' ⟨⟩⟩))
        | 6, ho =>
          obtain rfl := Option.some.inj ho
          obtain ⟨_, h44, rfl⟩ := given_fed hg 44 (by decide +kernel)
          clear hg
          exact st_yield ho (wanted_none rfl) (.bool r) w6 (by simp [execOp, Act.eval, h44, go_sem]) ⟨_, rfl, hI.keep 6 (by decide) (by decide), fun t u h => VG_any _ _ _ _ _ t _ _ u h, by rintro t' ⟨⟩; rfl⟩
        | n + 7, ho => simp at ho
      · intro f w6 done hall hI hv
        have h4 := hall 4 (by decide)
        have h5 := hall 5 (by decide)
        have hv5 := hv 5 (by decide)
        simp only [VG] at hv5
        simp only [h4, h5] at hI
        have HI := Go.Lib.hid hI
        clear hI hv hall h4 h5 HCU
        unfold putAll
        simp only [List.foldl]
        simp only [hv5]
        go_simp
        go_wp2_with fail
        refine bodyPost_ret (results_row_one (p := 4) (u := 5) (ty := 96) rfl _ _ (w.heap.size + 1) 96 #[.int .i64 P, .int .i64 M] (0, 0) _ rfl HI.out.k4 Tryz.underlying96 rfl (by kernel_rfl)) rfl ?_
        have hro := HI.out.ro
        rw [if_pos rfl] at hro
        refine ⟨HI.out.gr, TF.of_grown HH.out.f.row HI.out.gr, ?_⟩
        obtain ⟨rfl, rfl⟩ := HEND.out
        unfold tfV
        rw [HTF.out]
        refine ⟨?_, hro⟩
        rw [← HPM.out.1, ← HPM.out.2]
        rfl
end

end Go.Proofs.YtnalokjnbccjnaaGreatDoor
