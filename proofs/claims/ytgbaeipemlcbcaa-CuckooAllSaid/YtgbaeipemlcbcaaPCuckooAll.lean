/- CuckooAll: entries find a place just if all can be laid; who has a hash's tag in its buckets is found; each lies where it may: for every slice of operations the law returns true. -/
import Derived.Test.YtgbaeipemlcbcaaRows
import Derived.WalkKit
import Derived.ProofKit
import Derived.OpenShut
import Derived.ShutString
import Derived.ChangeOld
import Derived.Below
import Derived.Test.YtgbaeipemlcbcaaOpsC
import Derived.Test.YtgbaeipemlcbcaaCucA
import Derived.Test.YtgbaeipemlcbcaaHead
namespace Go.Proofs.Ytgbaeipemlcbcaa.cuckooAll
open Go.ChangeShapes Go.WideShapes Go.ChangeAt Go.RowKit
open Go.ChangeMaps (open_string shut_string)
set_option linter.unusedVariables false

theorem own : ownKnob Try.prog.godebug = none := by kernel_rfl
theorem laidOut : laidOutB Try.prog = true := by kernel_rfl

theorem cell_on {w w' : World} {p : Addr} {c : Value} (h : w.cell? p = some c) (hb : Below w.heap.size w w') : w'.cell? p = some c :=
  (hb.cell (World.block_lt_of_cell? w _ h)).trans h
theorem box4 {w : World} {p : Nat} {x : OpC} (h : w.heap[p]? = some (boxO x)) : w.cell? ⟨p, 0, none⟩ = some (.int .i64 x.kind) ∧ w.cell? ⟨p, 1, none⟩ = some (.int .i64 x.id) ∧ w.cell? ⟨p, 2, none⟩ = some (.int .i64 x.old) ∧ w.cell? ⟨p, 3, none⟩ = some (.int .u64 (x.h : Int)) := by
  have c := fun j => cell_of_row w p j _ _ _ h
  exact ⟨c 0, c 1, c 2, c 3⟩
def W13A (p : Nat) (id : Int) : Nat → World → Value → Prop
  | 9, _, v => v = .bool false
  | 36, _, v => v = .pointer (some ⟨p, 1, none⟩)
  | 37, _, v => v = .int .i64 id
  | 38, _, v => v = .bool false
  | 39, _, v => v = .bool false
  | 40, _, v => v = undef
  | 41, _, v => v = undef
  | 42, _, v => v = undef
  | 43, _, v => v = .bool false
  | 44, _, v => v = .bool false
  | 45, _, v => v = undef
  | 46, _, v => v = undef
  | 47, _, v => v = undef
  | 48, _, v => v = undef
  | 49, _, v => v = undef
  | 50, _, v => v = undef
  | 51, _, v => v = undef
  | 52, _, v => v = .bool false
  | _, _, _ => True

theorem W13A_below (p : Nat) (id : Int) : ∀ (i : Nat) (w w' : World) (v : Value), W13A p id i w v → Below w.heap.size w w' → W13A p id i w' v := by
  intro i w w' v h hb
  unfold W13A at h ⊢
  split at h <;> first | exact h | trivial | exact RB.below h hb | exact Own.below h hb | exact OwnV.below h hb | exact OwnRec.below h hb | exact Lay.R.below h hb

def W13B (p : Nat) (id : Int) : Nat → World → Value → Prop
  | 9, _, v => v = .bool false
  | 36, _, v => v = .pointer (some ⟨p, 1, none⟩)
  | 37, _, v => v = .int .i64 id
  | 38, _, v => v = .bool true
  | 39, _, v => v = .bool true
  | 40, _, v => v = .pointer (some ⟨p, 1, none⟩)
  | 41, _, v => v = .int .i64 id
  | 42, _, v => v = .bool false
  | 43, _, v => v = .bool false
  | 44, _, v => v = .bool false
  | 45, _, v => v = undef
  | 46, _, v => v = undef
  | 47, _, v => v = undef
  | 48, _, v => v = undef
  | 49, _, v => v = undef
  | 50, _, v => v = undef
  | 51, _, v => v = undef
  | 52, _, v => v = .bool false
  | _, _, _ => True

theorem W13B_below (p : Nat) (id : Int) : ∀ (i : Nat) (w w' : World) (v : Value), W13B p id i w v → Below w.heap.size w w' → W13B p id i w' v := by
  intro i w w' v h hb
  unfold W13B at h ⊢
  split at h <;> first | exact h | trivial | exact RB.below h hb | exact Own.below h hb | exact OwnV.below h hb | exact OwnRec.below h hb | exact Lay.R.below h hb

def W13 (p : Nat) (id : Int) (vh : Value) (h : Nat) (R : Bool) : Nat → World → Value → Prop
  | 9, _, v => v = .bool R
  | 36, _, v => v = .pointer (some ⟨p, 1, none⟩)
  | 37, _, v => v = .int .i64 id
  | 38, _, v => v = .bool true
  | 39, _, v => v = .bool true
  | 40, _, v => v = .pointer (some ⟨p, 1, none⟩)
  | 41, _, v => v = .int .i64 id
  | 42, _, v => v = .bool true
  | 43, _, v => v = .bool true
  | 44, _, v => v = .bool true
  | 45, _, v => v = vh
  | 47, _, v => v = .pointer (some ⟨p, 3, none⟩)
  | 48, _, v => v = .int .u64 (h : Int)
  | 51, _, v => v = .bool R
  | 52, _, v => v = .bool R
  | _, _, _ => True

theorem W13_any (p : Nat) (id : Int) (vh : Value) (h : Nat) (R : Bool) : ∀ (i : Nat) (w w' : World) (v : Value), W13 p id vh h R i w v → W13 p id vh h R i w' v := by
  intro i w w' v h
  unfold W13 at h ⊢
  split at h <;> first | exact h | trivial

def W17 (p : Nat) (id : Int) (ue vh : Value) (h : Nat) : Nat → World → Value → Prop
  | 62, _, v => v = ue
  | 63, _, v => v = .pointer (some ⟨p, 3, none⟩)
  | 64, _, v => v = .int .u64 (h : Int)
  | 65, _, v => v = .pointer (some ⟨p, 1, none⟩)
  | 66, _, v => v = .int .i64 id
  | 67, _, v => v = .agg #[.int .u64 (h : Int), .int .i64 id]
  | 70, _, v => v = vh
  | 71, _, v => v = .pointer (some ⟨p, 3, none⟩)
  | 72, _, v => v = .int .u64 (h : Int)
  | _, _, _ => True

theorem W17_any (p : Nat) (id : Int) (ue vh : Value) (h : Nat) : ∀ (i : Nat) (w w' : World) (v : Value), W17 p id ue vh h i w v → W17 p id ue vh h i w' v := by
  intro i w w' v h
  unfold W17 at h ⊢
  split at h <;> first | exact h | trivial

def W32 (u2 : Value) (d p h : Nat) (SF : List Int) : Nat → World → Value → Prop
  | 135, _, v => v = .pointer (some ⟨d, 0, none⟩)
  | 136, _, v => v = .pointer (some ⟨p, 3, none⟩)
  | 137, _, v => v = .int .u64 (h : Int)
  | 138, w, v => KI.R w v SF
  | 139, _, v => v = u2
  | 140, _, v => v = .pointer (some ⟨p, 3, none⟩)
  | 141, _, v => v = .int .u64 (h : Int)
  | 142, w, v => KI.R w v SF
  | 143, _, v => v = .bool true
  | 144, _, v => v = .bool false
  | 145, _, v => v = .bool false
  | 146, _, v => v = .pointer (some ⟨d, 0, none⟩)
  | 147, _, v => v = u2
  | 148, _, v => v = .bool true
  | 149, _, v => v = .bool false
  | 150, _, v => v = .bool false
  | _, _, _ => True

theorem W32_below (u2 : Value) (d p h : Nat) (SF : List Int) : ∀ (i : Nat) (w w' : World) (v : Value), W32 u2 d p h SF i w v → Below w.heap.size w w' → W32 u2 d p h SF i w' v := by
  intro i w w' v h hb
  unfold W32 at h ⊢
  split at h <;> first | exact h | trivial | exact RB.below h hb | exact Own.below h hb | exact OwnV.below h hb | exact OwnRec.below h hb | exact Lay.R.below h hb

set_option maxHeartbeats 8000000 in
set_option maxRecDepth 100000 in
theorem walk (w : World) (a0 : Option Addr) (len0 cap0 : Nat) (l0 : List OpC) (w0 : ROpC w (.slice a0 len0 cap0) l0) :
    Calls Try.prog 3 #[.slice a0 len0 cap0] w fun e w' => e = .returned (.bool true) ∧ Below w.heap.size w w' := by
  obtain ⟨hro, hok⟩ := w0
  obtain ⟨hl0, -, -⟩ := hro.len
  subst hl0
  obtain ⟨_, _, -, hm⟩ := hro.form
  have HO := Go.Lib.hid hro
  have HOK := Go.Lib.hid hok
  clear hro hok
  go_enter Try.func3, Try.ntmps3
  go_wp2_with fail
  refine (begun_c _).mono ?_
  rintro e w1 ⟨rfl, hc⟩
  have HB := Go.Lib.hid hc
  clear hc
  go_wp2_with fail
  refine (cnew_c _).mono ?_
  rintro e w2 ⟨d, rfl, hd, hck, hc⟩
  have HD := Go.Lib.hid (Nat.le_trans HB.out.size hd)
  have HB := Go.Lib.hid (below_to HB.out (Nat.le_refl _) hc)
  have HC := Go.Lib.hid hck
  clear hc hck hd
  go_wp2_with fail
  go_loopw [5, 6, 7] (fun uv vv iv wr => ∃ (k : Nat) (u v : Value) (T : SlT) (es : List EnT), u = uv ∧ v = vv ∧ k ≤ l0.length ∧ k ≤ 60 ∧ iv = .int .i64 (k : Int) ∧ KE.O wr (d + 1) u es ∧ KU.O wr (d + 1) v (es.map Prod.fst) ∧ CK wr d T ∧ Hid (Fits T es ∧ (∀ e ∈ es, e.1 < 18446744073709551616) ∧ es.length ≤ k) ∧ d + 1 ≤ wr.heap.size ∧ Below w.heap.size w wr) (fun _ _ iv _ => 60 - (intOf iv).toNat)
  case atStart => exact ⟨0, _, _, _, [], rfl, rfl, by omega, by omega, rfl, Lay.O.nil _ _, Lay.O.nil _ _, HC.out, Go.Lib.hid ⟨Fits.empty fun _ _ => rfl, (fun e he => by cases he), by simp⟩, HC.out.lt, HB.out⟩
  case round =>
    obtain ⟨k, ue, vh, T, es, rfl, rfl, hk, hk60, rfl, hu, hv, hck, hft, hsz, hbc⟩ := hrel
    by_cases hkl : k < l0.length
    · by_cases hk6 : k < 60
      · have hkI : (k : Int) < (l0.length : Int) := by omega
        have hkJ : (k : Int) < 60 := by omega
        obtain ⟨b, o, rfl, -, hbs, hcs⟩ := (HO.out.below hbc).at KO_ok k hkl
        have hok := HOK.out l0[k] (List.getElem_mem hkl)
        have hix : ∀ W : World, (Instr.indexAt 22 (.slice (some ⟨b, o, none⟩) l0.length cap0) (.int .i64 (k : Int))).run Try.prog W = .ok (.pointer (some ⟨b, o + k * 4, none⟩)) W := fun W => KO_ok.run_idx b o l0.length cap0 k hkl W
        have c0 : wr.cell? ⟨b, o + k * 4, none⟩ = some (.int .i64 l0[k].kind) := hcs 0 _ rfl
        have c1 : wr.cell? ⟨b, o + k * 4 + 1, none⟩ = some (.int .i64 l0[k].id) := hcs 1 _ rfl
        have c2 : wr.cell? ⟨b, o + k * 4 + 2, none⟩ = some (.int .i64 l0[k].old) := hcs 2 _ rfl
        have c3 : wr.cell? ⟨b, o + k * 4 + 3, none⟩ = some (.int .u64 (l0[k].h : Int)) := hcs 3 _ rfl
        clear hcs
        generalize l0[k] = x at *
        obtain ⟨kd, id, od, h⟩ := x
        simp only [] at c0 c1 c2 c3
        have HX := Go.Lib.hid hok.wh
        have HWI := Go.Lib.hid hok.wi
        have HIB := Go.Lib.hid (bounds_i64 hok.wi)
        have HOB := Go.Lib.hid (bounds_i64 hok.wo)
        clear hok
        simp only [] at HX HWI HIB HOB
        have HK := Go.Lib.hid (And.intro hkl hk6)
        have HES := Go.Lib.hid (show (∀ e ∈ es, e.1 < 18446744073709551616) ∧ es.length ≤ k + 1 from ⟨hft.out.2.1, by have := hft.out.2.2; omega⟩)
        have HEL := Go.Lib.hid hft.out.2.2
        have HF := Go.Lib.hid hft.out.1
        have hbx := (Below.refl wr.heap.size wr).alloc (Nat.le_refl _) (.cells #[.int .i64 kd, .int .i64 id, .int .i64 od, .int .u64 (h : Int)] 30)
        have hnx := heap_alloc_new wr (.cells #[.int .i64 kd, .int .i64 id, .int .i64 od, .int .u64 (h : Int)] 30)
        obtain ⟨p, hp⟩ : ∃ p, p = wr.heap.size := ⟨_, rfl⟩
        obtain ⟨wb, hwb⟩ : ∃ wb, wb = wr.alloc (.cells #[.int .i64 kd, .int .i64 id, .int .i64 od, .int .u64 (h : Int)] 30) := ⟨_, rfl⟩
        have HU := Go.Lib.hid (hu.below hbx)
        have HV := Go.Lib.hid (hv.below hbx)
        have HC := Go.Lib.hid (hck.below hbx)
        have HS := Go.Lib.hid (Nat.le_trans hsz hbx.size)
        have HB := Go.Lib.hid (below_to hbc (Nat.le_refl _) hbx)
        have HBX := Go.Lib.hid hnx
        rw [← hp] at HBX
        rw [← hwb] at HU HV HC HS HB HBX
        have HBX : Go.RowKit.Hid (wb.heap[p]? = some (boxO ⟨kd, id, od, h⟩)) := HBX
        have HWB := Go.Lib.hid hwb
        have HP := Go.Lib.hid hp
        clear hbx hnx hp hwb hu hv hck hft hsz hbc hkl hk6 hbs
        by_cases hk0 : kd = 0
        · have hb0 : (kd == 0) = true := by simp [hk0]
          by_cases hi0 : 0 ≤ id
          · by_cases hi1 : id ≤ 1099511627776
            · have hi0 : decide (0 ≤ id) = true := decide_eq_true hi0
              have hi1 : decide (id ≤ 1099511627776) = true := decide_eq_true hi1
              have HOKI := Go.Lib.hid (show idOk id = true by unfold idOk; simp only [decide_eq_true_eq] at hi0 hi1 ⊢; exact ⟨hi0, hi1⟩)
              clear hk0
              obtain ⟨R, hR⟩ : ∃ R, roomB (es.map Prod.fst ++ [h]) = R := ⟨_, rfl⟩
              have CRM := Go.Lib.hid (fun y W (hy : KU.R W y (es.map Prod.fst ++ [h])) => by
                have := rroom_c y _ W hy (by
                  intro z hz
                  rcases List.mem_append.1 hz with hz | hz
                  · obtain ⟨e, he, rfl⟩ := List.mem_map.1 hz
                    exact HES.out.1 e he
                  · rw [List.mem_singleton.1 hz]; exact HX.out) (by have := HES.out.2; have := HK.out; simp; omega)
                rw [hR] at this
                exact this)
              have HRR := Go.Lib.hid hR
              clear hR
              go_upto_region 13 with (fail)
              rw [← HWB.out, ← HP.out]
              clear HWB HP c0 c1 c2 c3 hix
              obtain ⟨x0, x1, x2, x3⟩ := box4 HBX.out
              simp only [] at x0 x1 x2 x3
              have HES2 := HES
              have HES := Go.Lib.hid (show (∀ e ∈ es, e.1 < 18446744073709551616) ∧ es.length ≤ 100 from ⟨HES.out.1, by have := HES.out.2; have := HK.out; omega⟩)
              refine wp_region_inv3 (by kernel_rfl) (W13 p id vh h R) (I13 wb (es.map Prod.fst) h) (by decide +kernel) (by decide +kernel) (by rfl) [36, 37, 38, 39, 40, 41, 42, 43, 44, 45, 46, 47, 48, 49, 50, 51, 52, 9] (by rfl) (I13.start _ _ _ _) ?_ ?_
              · intro i o ho a w6 done hI hnot hr hsh hlen hg
                have hb6 := hI.1
                have x0 := cell_on x0 hb6
                have x1 := cell_on x1 hb6
                have x2 := cell_on x2 hb6
                have x3 := cell_on x3 hb6
                have hlen : a.tmps.size = 100 + 51 := hlen
                match i, ho with
                | 0, ho =>
                  obtain rfl := Option.some.inj ho
                  have h8 := given_old hg 8 (by decide +kernel)
                  clear hg
                  exact st_yield ho (wanted_none rfl) (.pointer (some ⟨p, 1, none⟩)) w6 (by simp [execOp, Act.eval, h8, go_sem]) ⟨_, rfl, hI.keep 0 (by decide) 36 (by decide) _ (Below.refl _ _), fun t u _ z => W13_any p id vh h R t _ _ u z, by rintro t' ⟨⟩; rfl⟩
                | 1, ho =>
                  obtain rfl := Option.some.inj ho
                  obtain ⟨_, h36, rfl⟩ := given_fed hg 36 (by decide +kernel)
                  clear hg
                  exact st_yield ho (wanted_none rfl) (.int .i64 id) w6 (by simp [execOp, Act.eval, h36, go_sem, x1]) ⟨_, rfl, hI.keep 1 (by decide) 37 (by decide) _ (Below.refl _ _), fun t u _ z => W13_any p id vh h R t _ _ u z, by rintro t' ⟨⟩; rfl⟩
                | 2, ho =>
                  obtain rfl := Option.some.inj ho
                  obtain ⟨_, h37, rfl⟩ := given_fed hg 37 (by decide +kernel)
                  clear hg
                  exact st_yield ho (wanted_none rfl) (.bool true) w6 (by simp [execOp, Act.eval, h37, go_sem, hi0]) ⟨_, rfl, hI.keep 2 (by decide) 38 (by decide) _ (Below.refl _ _), fun t u _ z => W13_any p id vh h R t _ _ u z, by rintro t' ⟨⟩; rfl⟩
                | 3, ho =>
                  obtain rfl := Option.some.inj ho
                  obtain ⟨_, h38, rfl⟩ := given_fed hg 38 (by decide +kernel)
                  clear hg
                  exact st_yield ho (wanted_none rfl) (.bool true) w6 (by simp [execOp, Act.eval, h38, go_sem]) ⟨_, rfl, hI.keep 3 (by decide) 39 (by decide) _ (Below.refl _ _), fun t u _ z => W13_any p id vh h R t _ _ u z, by rintro t' ⟨⟩; rfl⟩
                | 4, ho =>
                  obtain rfl := Option.some.inj ho
                  have h8 := given_old hg 8 (by decide +kernel)
                  obtain ⟨_, h39, rfl⟩ := given_fed hg 39 (by decide +kernel)
                  clear hg
                  exact st_yield ho (wanted_some rfl rfl h39 rfl) (.pointer (some ⟨p, 1, none⟩)) w6 (by simp [execOp, Act.eval, h8, go_sem]) ⟨_, rfl, hI.keep 4 (by decide) 40 (by decide) _ (Below.refl _ _), fun t u _ z => W13_any p id vh h R t _ _ u z, by rintro t' ⟨⟩; rfl⟩
                | 5, ho =>
                  obtain rfl := Option.some.inj ho
                  obtain ⟨_, h40, rfl⟩ := given_fed hg 40 (by decide +kernel)
                  obtain ⟨_, h39, rfl⟩ := given_fed hg 39 (by decide +kernel)
                  clear hg
                  exact st_yield ho (wanted_some rfl rfl h39 rfl) (.int .i64 id) w6 (by simp [execOp, Act.eval, h40, go_sem, x1]) ⟨_, rfl, hI.keep 5 (by decide) 41 (by decide) _ (Below.refl _ _), fun t u _ z => W13_any p id vh h R t _ _ u z, by rintro t' ⟨⟩; rfl⟩
                | 6, ho =>
                  obtain rfl := Option.some.inj ho
                  obtain ⟨_, h41, rfl⟩ := given_fed hg 41 (by decide +kernel)
                  obtain ⟨_, h39, rfl⟩ := given_fed hg 39 (by decide +kernel)
                  clear hg
                  exact st_yield ho (wanted_some rfl rfl h39 rfl) (.bool true) w6 (by simp [execOp, Act.eval, h41, go_sem, hi1]) ⟨_, rfl, hI.keep 6 (by decide) 42 (by decide) _ (Below.refl _ _), fun t u _ z => W13_any p id vh h R t _ _ u z, by rintro t' ⟨⟩; rfl⟩
                | 7, ho =>
                  obtain rfl := Option.some.inj ho
                  obtain ⟨_, h39, rfl⟩ := given_fed hg 39 (by decide +kernel)
                  obtain ⟨_, h42, rfl⟩ := given_fed hg 42 (by decide +kernel)
                  clear hg
                  exact st_yield ho (wanted_none rfl) (.bool true) w6 (by simp [execOp, Act.eval, h39, h42, go_sem]) ⟨_, rfl, hI.keep 7 (by decide) 43 (by decide) _ (Below.refl _ _), fun t u _ z => W13_any p id vh h R t _ _ u z, by rintro t' ⟨⟩; rfl⟩
                | 8, ho =>
                  obtain rfl := Option.some.inj ho
                  obtain ⟨_, h43, rfl⟩ := given_fed hg 43 (by decide +kernel)
                  clear hg
                  exact st_yield ho (wanted_none rfl) (.bool true) w6 (by simp [execOp, Act.eval, h43, go_sem]) ⟨_, rfl, hI.keep 8 (by decide) 44 (by decide) _ (Below.refl _ _), fun t u _ z => W13_any p id vh h R t _ _ u z, by rintro t' ⟨⟩; rfl⟩
                | 9, ho =>
                  obtain rfl := Option.some.inj ho
                  have h6 := given_old hg 6 (by decide +kernel)
                  obtain ⟨_, h44, rfl⟩ := given_fed hg 44 (by decide +kernel)
                  clear hg
                  exact st_yield ho (wanted_some rfl rfl h44 rfl) (vh) w6 (by simp [execOp, Act.eval, h6, go_sem]) ⟨_, rfl, hI.keep 9 (by decide) 45 (by decide) _ (Below.refl _ _), fun t u _ z => W13_any p id vh h R t _ _ u z, by rintro t' ⟨⟩; rfl⟩
                | 10, ho =>
                  obtain rfl := Option.some.inj ho
                  obtain ⟨v45', h45, p45⟩ := given_fed hg 45 (by decide +kernel)
                  have p45 : v45' = vh := p45
                  rw [p45] at h45
                  obtain ⟨_, h44, rfl⟩ := given_fed hg 44 (by decide +kernel)
                  clear hg
                  have n14 : done 14 = false := by cases h : done 14 with | false => rfl | true => have := hsh 14 10 h (by decide +kernel); rw [hnot] at this; cases this
                  refine st_list ho (wanted_some rfl rfl h44 rfl) fun Q' hQ => wpList_met (wanted_some rfl rfl h44 rfl) (KU_ok.append rfl (.const (.slice none 0 0)) (.tmp 45) rfl wb.heap.size (.slice none 0 0) vh [] (es.map Prod.fst) rfl (by simp [Act.eval, h45]) (Lay.O.nil _ _) (HV.out.r.below hb6) (by have := HES.out.2; simp; omega) hb6.size ?_)
                  intro y w7 ho7 hg7
                  exact wpList_nil (hQ _ _ ⟨y, rfl, hI.s10 n14 hlen ho7 (grown_below hg7 (Nat.le_refl _) (by simp [Value.ownBlock])), fun t u _ z => W13_any p id vh h R t _ _ u z, by rintro t' ⟨⟩; trivial⟩)
                | 11, ho =>
                  obtain rfl := Option.some.inj ho
                  have h8 := given_old hg 8 (by decide +kernel)
                  obtain ⟨_, h44, rfl⟩ := given_fed hg 44 (by decide +kernel)
                  clear hg
                  exact st_yield ho (wanted_some rfl rfl h44 rfl) (.pointer (some ⟨p, 3, none⟩)) w6 (by simp [execOp, Act.eval, h8, go_sem]) ⟨_, rfl, hI.keep 11 (by decide) 47 (by decide) _ (Below.refl _ _), fun t u _ z => W13_any p id vh h R t _ _ u z, by rintro t' ⟨⟩; rfl⟩
                | 12, ho =>
                  obtain rfl := Option.some.inj ho
                  obtain ⟨_, h47, rfl⟩ := given_fed hg 47 (by decide +kernel)
                  obtain ⟨_, h44, rfl⟩ := given_fed hg 44 (by decide +kernel)
                  clear hg
                  exact st_yield ho (wanted_some rfl rfl h44 rfl) (.int .u64 (h : Int)) w6 (by simp [execOp, Act.eval, h47, go_sem, x3]) ⟨_, rfl, hI.keep 12 (by decide) 48 (by decide) _ (Below.refl _ _), fun t u _ z => W13_any p id vh h R t _ _ u z, by rintro t' ⟨⟩; rfl⟩
                | 13, ho =>
                  obtain rfl := Option.some.inj ho
                  obtain ⟨_, h48, rfl⟩ := given_fed hg 48 (by decide +kernel)
                  obtain ⟨_, h44, rfl⟩ := given_fed hg 44 (by decide +kernel)
                  clear hg
                  have n14 : done 14 = false := by cases h : done 14 with | false => rfl | true => have := hsh 14 13 h (by decide +kernel); rw [hnot] at this; cases this
                  exact st_yield ho (wanted_some rfl rfl h44 rfl) (.slice (some ⟨w6.heap.size, 0, none⟩) 1 1) (w6.alloc (.cells #[.int .u64 (h : Int)] 28)) (by simp [execOp, Act.eval, h48, go_sem]) ⟨_, rfl, hI.s13 n14 hlen (Lay.R.one w6 KU_ok h 28 (0, 0)) ((Below.refl _ w6).alloc (Nat.le_refl _) _), fun t u _ z => W13_any p id vh h R t _ _ u z, by rintro t' ⟨⟩; trivial⟩
                | 14, ho =>
                  obtain rfl := Option.some.inj ho
                  obtain ⟨_, h44, rfl⟩ := given_fed hg 44 (by decide +kernel)
                  clear hg
                  obtain ⟨v46, h46, o46⟩ := hI.2.1 (hr 10 (by decide +kernel)) hnot
                  obtain ⟨v49, h49, o49⟩ := hI.2.2.1 (hr 13 (by decide +kernel)) hnot
                  refine st_list ho (wanted_some rfl rfl h44 rfl) fun Q' hQ => wpList_met (wanted_some rfl rfl h44 rfl) (KU_ok.append rfl (.tmp 46) (.tmp 49) rfl wb.heap.size v46 v49 (es.map Prod.fst) [h] (by simp [Act.eval, h46]) (by simp [Act.eval, h49]) o46 o49 (by have := HES.out.2; simp; omega) hb6.size ?_)
                  intro y w7 ho7 hg7
                  exact wpList_nil (hQ _ _ ⟨y, rfl, hI.s14 hlen ho7.r (hb6.grown hg7 hb6.size o46.row), fun t u _ z => W13_any p id vh h R t _ _ u z, by rintro t' ⟨⟩; trivial⟩)
                | 15, ho =>
                  obtain rfl := Option.some.inj ho
                  obtain ⟨_, h44, rfl⟩ := given_fed hg 44 (by decide +kernel)
                  clear hg
                  obtain ⟨v50, h50, o50⟩ := hI.2.2.2 (hr 14 (by decide +kernel))
                  exact st_enter (w1 := w6) ho (wanted_some rfl rfl h44 rfl) 9 #[v50] (by simp [execOp, Act.eval, h50, resolve, go_sem]) ((CRM.out _ _ o50).mono (by rintro e w7 ⟨rfl, rfl⟩; exact ⟨_, rfl, _, rfl, hI.keep 15 (by decide) 51 (by decide) _ (Below.refl _ _), fun t u _ z => W13_any p id vh h R t _ _ u z, by rintro t' ⟨⟩; rfl⟩))
                | 16, ho =>
                  obtain rfl := Option.some.inj ho
                  obtain ⟨_, h44, rfl⟩ := given_fed hg 44 (by decide +kernel)
                  obtain ⟨_, h51, rfl⟩ := given_fed hg 51 (by decide +kernel)
                  clear hg
                  exact st_yield ho (wanted_none rfl) (.bool R) w6 (by simp [execOp, Act.eval, h44, h51, go_sem]) ⟨_, rfl, hI.keep 16 (by decide) 52 (by decide) _ (Below.refl _ _), fun t u _ z => W13_any p id vh h R t _ _ u z, by rintro t' ⟨⟩; rfl⟩
                | 17, ho =>
                  obtain rfl := Option.some.inj ho
                  obtain ⟨_, h52, rfl⟩ := given_fed hg 52 (by decide +kernel)
                  clear hg
                  exact st_yield ho (wanted_none rfl) (.bool R) w6 (by simp [execOp, Act.eval, h52, go_sem]) ⟨_, rfl, hI.keep 17 (by decide) 9 (by decide) _ (Below.refl _ _), fun t u _ z => W13_any p id vh h R t _ _ u z, by rintro t' ⟨⟩; rfl⟩
                | n + 18, ho => simp at ho
              · intro f w6 done hall hI hvv
                have h9 := hvv 9 (by decide)
                simp only [W13] at h9
                have hb6 := hI.1
                have HES := HES2
                have HU := Go.Lib.hid (HU.out.below hb6)
                have HV := Go.Lib.hid (HV.out.below hb6)
                have HC := Go.Lib.hid (HC.out.below hb6)
                have HS := Go.Lib.hid (Nat.le_trans HS.out hb6.size)
                have HB := Go.Lib.hid (below_to HB.out (Nat.le_refl _) hb6)
                have HBX := Go.Lib.hid (block_kept HBX.out hb6)
                clear hI hvv hall hb6 x0 x1 x2 x3 CRM HES2
                obtain ⟨x0, x1, x2, x3⟩ := box4 HBX.out
                simp only [] at x0 x1 x2 x3
                unfold putAll
                simp only [List.foldl]
                simp only [h9]
                go_simp
                clear h9
                cases R with
                | false =>
                  go_wp2_with fail
                  refine (cinsert_no HC.out HF.out (x := h) (i := id) HX.out HWI.out (by rw [HRR.out, Bool.and_false])).mono ?_
                  rintro e w7 ⟨rfl, hb6⟩
                  have HU := Go.Lib.hid (HU.out.below hb6)
                  have HV := Go.Lib.hid (HV.out.below hb6)
                  have HC := Go.Lib.hid (HC.out.below hb6)
                  have HS := Go.Lib.hid (Nat.le_trans HS.out hb6.size)
                  have HB := Go.Lib.hid (below_to HB.out (Nat.le_refl _) hb6)
                  have HBX := Go.Lib.hid (block_kept HBX.out hb6)
                  clear hb6 x0 x1 x2 x3
                  go_wp2_with fail
                  as_aux_lemma =>
                    obtain ⟨x0, x1, x2, x3⟩ := box4 HBX.out
                    have CFD := Go.Lib.hid (fun W hW => cfind_c (w := W) (HC.out.below hW) HF.out (x := h) HX.out (by have := HES.out.2; omega))
                    have CFL := Go.Lib.hid (fun W hW => find_c _ _ h W ((HU.out.below hW).r) HES.out.1 HX.out (by have := HES.out.2; omega))
                    have CLI := Go.Lib.hid (fun W hW => lies_c d _ _ _ W (HC.out.below hW) ((HU.out.below hW).r) HF.out HES.out.1 (by have := HES.out.2; omega))
                    obtain ⟨SF, hSF⟩ : ∃ SF, SF = srtF es h := ⟨_, rfl⟩
                    have HSF := Go.Lib.hid (fun (F : List Int) (h1 : F.Pairwise (· ≤ ·)) (h2 : F.Perm (findL es h)) => (srtF_of h1 h2).trans hSF.symm)
                    have CEQ := Go.Lib.hid (fun a b W (ha : KI.R W a SF) (hb : KI.R W b SF) => by have := eqI_c a b SF SF W ha hb; rw [decide_eq_true rfl] at this; exact this)
                    clear hSF
                    go_upto_region 32 with (fail)
                    refine wp_region_each (by kernel_rfl) (W32 ue d p h SF) (W32_below ue d p h SF) (by decide +kernel) (by decide +kernel) (by rfl) [135, 136, 137, 138, 139, 140, 141, 142, 143, 144, 145, 146, 147, 148, 149, 150] (by rfl) ?_ ?_
                    · intro i o ho a w6 hb6 hlen hg
                      have x0 := cell_on x0 hb6
                      have x1 := cell_on x1 hb6
                      have x2 := cell_on x2 hb6
                      have x3 := cell_on x3 hb6
                      match i, ho with
                      | 0, ho =>
                        obtain rfl := Option.some.inj ho
                        have h4 := given_old hg 4 (by decide +kernel)
                        clear hg
                        exact st_yield ho (wanted_none rfl) (.pointer (some ⟨d, 0, none⟩)) w6 (by simp [execOp, Act.eval, h4, go_sem]) ⟨_, rfl, Below.refl _ _, by rintro t' ⟨⟩; rfl⟩
                      | 1, ho =>
                        obtain rfl := Option.some.inj ho
                        have h8 := given_old hg 8 (by decide +kernel)
                        clear hg
                        exact st_yield ho (wanted_none rfl) (.pointer (some ⟨p, 3, none⟩)) w6 (by simp [execOp, Act.eval, h8, go_sem]) ⟨_, rfl, Below.refl _ _, by rintro t' ⟨⟩; rfl⟩
                      | 2, ho =>
                        obtain rfl := Option.some.inj ho
                        obtain ⟨_, h136, rfl⟩ := given_fed hg 136 (by decide +kernel)
                        clear hg
                        exact st_yield ho (wanted_none rfl) (.int .u64 (h : Int)) w6 (by simp [execOp, Act.eval, h136, go_sem, x3]) ⟨_, rfl, Below.refl _ _, by rintro t' ⟨⟩; rfl⟩
                      | 3, ho =>
                        obtain rfl := Option.some.inj ho
                        obtain ⟨_, h135, rfl⟩ := given_fed hg 135 (by decide +kernel)
                        obtain ⟨_, h137, rfl⟩ := given_fed hg 137 (by decide +kernel)
                        clear hg
                        exact st_enter (w1 := w6) ho (wanted_none rfl) 14 #[.pointer (some ⟨d, 0, none⟩), .int .u64 (h : Int)] (by simp [execOp, Act.eval, h135, h137, resolve, go_sem]) ((CFD.out _ hb6).mono (by rintro e w7 ⟨v, F, rfl, ho7, hs7, hp7, hb7⟩; obtain rfl := HSF.out F hs7 hp7; exact ⟨v, rfl, _, rfl, hb7, by rintro t' ⟨⟩; exact ho7.r⟩))
                      | 4, ho =>
                        obtain rfl := Option.some.inj ho
                        have h5 := given_old hg 5 (by decide +kernel)
                        clear hg
                        exact st_yield ho (wanted_none rfl) (ue) w6 (by simp [execOp, Act.eval, h5, go_sem]) ⟨_, rfl, Below.refl _ _, by rintro t' ⟨⟩; rfl⟩
                      | 5, ho =>
                        obtain rfl := Option.some.inj ho
                        have h8 := given_old hg 8 (by decide +kernel)
                        clear hg
                        exact st_yield ho (wanted_none rfl) (.pointer (some ⟨p, 3, none⟩)) w6 (by simp [execOp, Act.eval, h8, go_sem]) ⟨_, rfl, Below.refl _ _, by rintro t' ⟨⟩; rfl⟩
                      | 6, ho =>
                        obtain rfl := Option.some.inj ho
                        obtain ⟨_, h140, rfl⟩ := given_fed hg 140 (by decide +kernel)
                        clear hg
                        exact st_yield ho (wanted_none rfl) (.int .u64 (h : Int)) w6 (by simp [execOp, Act.eval, h140, go_sem, x3]) ⟨_, rfl, Below.refl _ _, by rintro t' ⟨⟩; rfl⟩
                      | 7, ho =>
                        obtain rfl := Option.some.inj ho
                        obtain ⟨v139', h139, p139⟩ := given_fed hg 139 (by decide +kernel)
                        have p139 : v139' = ue := p139
                        rw [p139] at h139
                        obtain ⟨_, h141, rfl⟩ := given_fed hg 141 (by decide +kernel)
                        clear hg
                        exact st_enter (w1 := w6) ho (wanted_none rfl) 15 #[ue, .int .u64 (h : Int)] (by simp [execOp, Act.eval, h139, h141, resolve, go_sem]) ((CFL.out _ hb6).mono (by rintro e w7 ⟨v, F, rfl, ho7, hs7, hp7, hb7⟩; obtain rfl := HSF.out F hs7 hp7; exact ⟨v, rfl, _, rfl, hb7, by rintro t' ⟨⟩; exact ho7⟩))
                      | 8, ho =>
                        obtain rfl := Option.some.inj ho
                        obtain ⟨v138, h138, p138⟩ := given_fed hg 138 (by decide +kernel)
                        obtain ⟨v142, h142, p142⟩ := given_fed hg 142 (by decide +kernel)
                        clear hg
                        exact st_enter (w1 := w6) ho (wanted_none rfl) 13 #[v138, v142] (by simp [execOp, Act.eval, h138, h142, resolve, go_sem]) ((CEQ.out _ _ _ p138 p142).mono (by rintro e w7 ⟨rfl, hb7⟩; exact ⟨_, rfl, _, rfl, hb7, by rintro t' ⟨⟩; rfl⟩))
                      | 9, ho =>
                        obtain rfl := Option.some.inj ho
                        obtain ⟨_, h143, rfl⟩ := given_fed hg 143 (by decide +kernel)
                        clear hg
                        exact st_yield ho (wanted_none rfl) (.bool false) w6 (by simp [execOp, Act.eval, h143, go_sem]) ⟨_, rfl, Below.refl _ _, by rintro t' ⟨⟩; rfl⟩
                      | 10, ho =>
                        obtain rfl := Option.some.inj ho
                        obtain ⟨_, h144, rfl⟩ := given_fed hg 144 (by decide +kernel)
                        clear hg
                        exact st_yield ho (wanted_none rfl) (.bool false) w6 (by simp [execOp, Act.eval, h144, go_sem]) ⟨_, rfl, Below.refl _ _, by rintro t' ⟨⟩; rfl⟩
                      | 11, ho =>
                        obtain rfl := Option.some.inj ho
                        have h4 := given_old hg 4 (by decide +kernel)
                        obtain ⟨_, h145, rfl⟩ := given_fed hg 145 (by decide +kernel)
                        clear hg
                        exact st_yield ho (wanted_some rfl rfl h145 rfl) (.pointer (some ⟨d, 0, none⟩)) w6 (by simp [execOp, Act.eval, h4, go_sem]) ⟨_, rfl, Below.refl _ _, by rintro t' ⟨⟩; rfl⟩
                      | 12, ho =>
                        obtain rfl := Option.some.inj ho
                        have h5 := given_old hg 5 (by decide +kernel)
                        obtain ⟨_, h145, rfl⟩ := given_fed hg 145 (by decide +kernel)
                        clear hg
                        exact st_yield ho (wanted_some rfl rfl h145 rfl) (ue) w6 (by simp [execOp, Act.eval, h5, go_sem]) ⟨_, rfl, Below.refl _ _, by rintro t' ⟨⟩; rfl⟩
                      | 13, ho =>
                        obtain rfl := Option.some.inj ho
                        obtain ⟨_, h146, rfl⟩ := given_fed hg 146 (by decide +kernel)
                        obtain ⟨v147', h147, p147⟩ := given_fed hg 147 (by decide +kernel)
                        have p147 : v147' = ue := p147
                        rw [p147] at h147
                        obtain ⟨_, h145, rfl⟩ := given_fed hg 145 (by decide +kernel)
                        clear hg
                        exact st_enter (w1 := w6) ho (wanted_some rfl rfl h145 rfl) 16 #[.pointer (some ⟨d, 0, none⟩), ue] (by simp [execOp, Act.eval, h146, h147, resolve, go_sem]) ((CLI.out _ hb6).mono (by rintro e w7 ⟨rfl, hb7⟩; exact ⟨_, rfl, _, rfl, hb7, by rintro t' ⟨⟩; rfl⟩))
                      | 14, ho =>
                        obtain rfl := Option.some.inj ho
                        obtain ⟨_, h148, rfl⟩ := given_fed hg 148 (by decide +kernel)
                        obtain ⟨_, h145, rfl⟩ := given_fed hg 145 (by decide +kernel)
                        clear hg
                        exact st_yield ho (wanted_some rfl rfl h145 rfl) (.bool false) w6 (by simp [execOp, Act.eval, h148, go_sem]) ⟨_, rfl, Below.refl _ _, by rintro t' ⟨⟩; rfl⟩
                      | 15, ho =>
                        obtain rfl := Option.some.inj ho
                        obtain ⟨_, h145, rfl⟩ := given_fed hg 145 (by decide +kernel)
                        obtain ⟨_, h149, rfl⟩ := given_fed hg 149 (by decide +kernel)
                        clear hg
                        exact st_yield ho (wanted_none rfl) (.bool false) w6 (by simp [execOp, Act.eval, h145, h149, go_sem]) ⟨_, rfl, Below.refl _ _, by rintro t' ⟨⟩; rfl⟩
                      | n + 16, ho => simp at ho
                    · intro f w9 hb9 hv
                      have h150 := hv 150 (by decide)
                      simp only [W32] at h150
                      have HC := Go.Lib.hid (HC.out.below hb9)
                      have HU := Go.Lib.hid (HU.out.below hb9)
                      have HV := Go.Lib.hid (HV.out.below hb9)
                      have HS := Go.Lib.hid (Nat.le_trans HS.out hb9.size)
                      have HB := Go.Lib.hid (below_to HB.out (Nat.le_refl _) hb9)
                      clear hv hb9 x0 x1 x2 x3 CFD CFL CLI CEQ
                      unfold putAll
                      simp only [List.foldl]
                      simp only [h150]
                      go_simp
                      go_wp2_with fail
                      go_roundw
                      case rel => exact ⟨k + 1, _, _, T, es, rfl, rfl, by have := HK.out; omega, by have := HK.out; omega, by go_num, HU.out, HV.out, HC.out, Go.Lib.hid ⟨HF.out, HES.out⟩, HS.out, HB.out⟩
                      case measure => simp only [intOf]; have := HK.out; omega
                | true =>
                  go_wp2_with fail
                  refine (cinsert_yes HC.out HF.out (x := h) (i := id) HX.out HOKI.out HRR.out).mono ?_
                  rintro e w7 ⟨rfl, ⟨T1, hck, hft⟩, ho⟩
                  have HU := Go.Lib.hid (HU.out.off ho (Nat.lt_succ_self _))
                  have HV := Go.Lib.hid (HV.out.off ho (Nat.lt_succ_self _))
                  have HS := Go.Lib.hid (Nat.le_trans HS.out ho.size)
                  have HB := Go.Lib.hid (HB.out.trans (ho.below HD.out HB.out.size))
                  have HBX := Go.Lib.hid (show w7.heap[p]? = some (boxO ⟨kd, id, od, h⟩) from (ho.block p (block_lt HBX.out) (fun e => by
                    obtain ⟨cs, fr, hcc⟩ := HC.out.row
                    have hb := HBX.out
                    rw [e, hcc] at hb
                    unfold boxO at hb
                    simp only [Option.some.injEq, Obj.cells.injEq] at hb
                    exact absurd hb.2.1 (by decide))).trans HBX.out)
                  have HC := Go.Lib.hid hck
                  have HF := Go.Lib.hid hft
                  clear hck hft ho x0 x1 x2 x3
                  obtain ⟨x0, x1, x2, x3⟩ := box4 HBX.out
                  simp only [] at x0 x1 x2 x3
                  generalize w7 = wb at *
                  have HES2 := HES
                  have HES := Go.Lib.hid (show (∀ e ∈ es, e.1 < 18446744073709551616) ∧ es.length ≤ 100 from ⟨HES.out.1, by have := HES.out.2; have := HK.out; omega⟩)
                  go_upto_region 17 with (fail)
                  refine wp_region_inv3 (by kernel_rfl) (W17 p id ue vh h) (I17 wb (d + 1) p ⟨kd, id, od, h⟩ ue vh es (es.map Prod.fst)) (by decide +kernel) (by decide +kernel) (by rfl) [62, 63, 64, 65, 66, 67, 68, 69, 70, 71, 72, 73, 74, 5, 6] (by rfl) (I17.start HS.out HBX.out HU.out HV.out _) ?_ ?_
                  · intro i o ho a w6 done hI hnot hr hsh hlen hg
                    obtain ⟨x0, x1, x2, x3⟩ := box4 hI.1.2.2
                    have hlen : a.tmps.size = 76 + 75 := hlen
                    match i, ho with
                    | 0, ho =>
                      obtain rfl := Option.some.inj ho
                      have h5 := given_old hg 5 (by decide +kernel)
                      clear hg
                      exact st_yield ho (wanted_none rfl) (ue) w6 (by simp [execOp, Act.eval, h5, go_sem]) ⟨_, rfl, hI.keep 0 (by decide) 62 (by decide) _ (Below.refl _ _), fun t y _ z => W17_any p id ue vh h t _ _ y z, by rintro t' ⟨⟩; rfl⟩
                    | 1, ho =>
                      obtain rfl := Option.some.inj ho
                      have h8 := given_old hg 8 (by decide +kernel)
                      clear hg
                      exact st_yield ho (wanted_none rfl) (.pointer (some ⟨p, 3, none⟩)) w6 (by simp [execOp, Act.eval, h8, go_sem]) ⟨_, rfl, hI.keep 1 (by decide) 63 (by decide) _ (Below.refl _ _), fun t y _ z => W17_any p id ue vh h t _ _ y z, by rintro t' ⟨⟩; rfl⟩
                    | 2, ho =>
                      obtain rfl := Option.some.inj ho
                      obtain ⟨_, h63, rfl⟩ := given_fed hg 63 (by decide +kernel)
                      clear hg
                      exact st_yield ho (wanted_none rfl) (.int .u64 (h : Int)) w6 (by simp [execOp, Act.eval, h63, go_sem, x3]) ⟨_, rfl, hI.keep 2 (by decide) 64 (by decide) _ (Below.refl _ _), fun t y _ z => W17_any p id ue vh h t _ _ y z, by rintro t' ⟨⟩; rfl⟩
                    | 3, ho =>
                      obtain rfl := Option.some.inj ho
                      have h8 := given_old hg 8 (by decide +kernel)
                      clear hg
                      exact st_yield ho (wanted_none rfl) (.pointer (some ⟨p, 1, none⟩)) w6 (by simp [execOp, Act.eval, h8, go_sem]) ⟨_, rfl, hI.keep 3 (by decide) 65 (by decide) _ (Below.refl _ _), fun t y _ z => W17_any p id ue vh h t _ _ y z, by rintro t' ⟨⟩; rfl⟩
                    | 4, ho =>
                      obtain rfl := Option.some.inj ho
                      obtain ⟨_, h65, rfl⟩ := given_fed hg 65 (by decide +kernel)
                      clear hg
                      exact st_yield ho (wanted_none rfl) (.int .i64 id) w6 (by simp [execOp, Act.eval, h65, go_sem, x1]) ⟨_, rfl, hI.keep 4 (by decide) 66 (by decide) _ (Below.refl _ _), fun t y _ z => W17_any p id ue vh h t _ _ y z, by rintro t' ⟨⟩; rfl⟩
                    | 5, ho =>
                      obtain rfl := Option.some.inj ho
                      obtain ⟨_, h64, rfl⟩ := given_fed hg 64 (by decide +kernel)
                      obtain ⟨_, h66, rfl⟩ := given_fed hg 66 (by decide +kernel)
                      clear hg
                      exact st_yield ho (wanted_none rfl) (.agg #[.int .u64 (h : Int), .int .i64 id]) w6 (by simp [execOp, Act.eval, h64, h66, go_sem]) ⟨_, rfl, hI.keep 5 (by decide) 67 (by decide) _ (Below.refl _ _), fun t y _ z => W17_any p id ue vh h t _ _ y z, by rintro t' ⟨⟩; rfl⟩
                    | 6, ho =>
                      obtain rfl := Option.some.inj ho
                      obtain ⟨_, h67, rfl⟩ := given_fed hg 67 (by decide +kernel)
                      clear hg
                      have n7 : done 7 = false := by cases h : done 7 with | false => rfl | true => have := hsh 7 6 h (by decide +kernel); rw [hnot] at this; cases this
                      have n13 : done 13 = false := by cases h : done 13 with | false => rfl | true => have := hsh 13 6 h (by decide +kernel); rw [hnot] at this; cases this
                      exact st_yield ho (wanted_none rfl) (.slice (some ⟨w6.heap.size, 0, none⟩) 1 1) (w6.alloc (.cells #[.int .u64 (h : Int), .int .i64 id] 34)) (by simp [execOp, Act.eval, h67, go_sem]) ⟨_, rfl, hI.s6 n7 n13 hlen, fun t y _ z => W17_any p id ue vh h t _ _ y z, by rintro t' ⟨⟩; trivial⟩
                    | 7, ho =>
                      obtain rfl := Option.some.inj ho
                      obtain ⟨v62', h62, p62⟩ := given_fed hg 62 (by decide +kernel)
                      have p62 : v62' = ue := p62
                      rw [p62] at h62
                      clear hg
                      have n12 : done 12 = false := by cases h : done 12 with | false => rfl | true => have := hsh 12 7 h (by decide +kernel); rw [hnot] at this; cases this
                      have n13 : done 13 = false := by cases h : done 13 with | false => rfl | true => have := hsh 13 7 h (by decide +kernel); rw [hnot] at this; cases this
                      have n14 : done 14 = false := by cases h : done 14 with | false => rfl | true => have := hsh 14 7 h (by decide +kernel); rw [hnot] at this; cases this
                      have hu := hI.2.1 hnot
                      obtain ⟨q, h68, hq⟩ := hI.2.2.2.2.2.1 (hr 6 (by decide +kernel)) hnot
                      refine st_list ho (wanted_none rfl) fun Q' hQ => KE_ok.append rfl (.tmp 62) (.tmp 68) rfl (d + 1) ue (.slice (some ⟨q, 0, none⟩) 1 1) es [(h, id)] (by simp [Act.eval, h62]) (by simp [Act.eval, h68]) hu (Lay.R.oneAt (show w6.heap[q]? = some (.cells (KE.enc (h, id)).toArray 34 (0, 0)) from hq)) (by have := HES.out.2; simp; omega) hI.1.2.1 ?_
                      intro y w7 ho7 hg7
                      exact wpList_nil (hQ _ _ ⟨y, rfl, hI.s7 hnot n12 n13 n14 hlen ho7 hg7, fun t y _ z => W17_any p id ue vh h t _ _ y z, by rintro t' ⟨⟩; trivial⟩)
                    | 8, ho =>
                      obtain rfl := Option.some.inj ho
                      have h6 := given_old hg 6 (by decide +kernel)
                      clear hg
                      exact st_yield ho (wanted_none rfl) (vh) w6 (by simp [execOp, Act.eval, h6, go_sem]) ⟨_, rfl, hI.keep 8 (by decide) 70 (by decide) _ (Below.refl _ _), fun t y _ z => W17_any p id ue vh h t _ _ y z, by rintro t' ⟨⟩; rfl⟩
                    | 9, ho =>
                      obtain rfl := Option.some.inj ho
                      have h8 := given_old hg 8 (by decide +kernel)
                      clear hg
                      exact st_yield ho (wanted_none rfl) (.pointer (some ⟨p, 3, none⟩)) w6 (by simp [execOp, Act.eval, h8, go_sem]) ⟨_, rfl, hI.keep 9 (by decide) 71 (by decide) _ (Below.refl _ _), fun t y _ z => W17_any p id ue vh h t _ _ y z, by rintro t' ⟨⟩; rfl⟩
                    | 10, ho =>
                      obtain rfl := Option.some.inj ho
                      obtain ⟨_, h71, rfl⟩ := given_fed hg 71 (by decide +kernel)
                      clear hg
                      exact st_yield ho (wanted_none rfl) (.int .u64 (h : Int)) w6 (by simp [execOp, Act.eval, h71, go_sem, x3]) ⟨_, rfl, hI.keep 10 (by decide) 72 (by decide) _ (Below.refl _ _), fun t y _ z => W17_any p id ue vh h t _ _ y z, by rintro t' ⟨⟩; rfl⟩
                    | 11, ho =>
                      obtain rfl := Option.some.inj ho
                      obtain ⟨_, h72, rfl⟩ := given_fed hg 72 (by decide +kernel)
                      clear hg
                      have n12 : done 12 = false := by cases h : done 12 with | false => rfl | true => have := hsh 12 11 h (by decide +kernel); rw [hnot] at this; cases this
                      have n14 : done 14 = false := by cases h : done 14 with | false => rfl | true => have := hsh 14 11 h (by decide +kernel); rw [hnot] at this; cases this
                      exact st_yield ho (wanted_none rfl) (.slice (some ⟨w6.heap.size, 0, none⟩) 1 1) (w6.alloc (.cells #[.int .u64 (h : Int)] 28)) (by simp [execOp, Act.eval, h72, go_sem]) ⟨_, rfl, hI.s11 n12 n14 hlen, fun t y _ z => W17_any p id ue vh h t _ _ y z, by rintro t' ⟨⟩; trivial⟩
                    | 12, ho =>
                      obtain rfl := Option.some.inj ho
                      obtain ⟨v70', h70, p70⟩ := given_fed hg 70 (by decide +kernel)
                      have p70 : v70' = vh := p70
                      rw [p70] at h70
                      clear hg
                      have n13 : done 13 = false := by cases h : done 13 with | false => rfl | true => have := hsh 13 12 h (by decide +kernel); rw [hnot] at this; cases this
                      have n14 : done 14 = false := by cases h : done 14 with | false => rfl | true => have := hsh 14 12 h (by decide +kernel); rw [hnot] at this; cases this
                      have hv := hI.2.2.2.1 hnot
                      obtain ⟨q, h73, hq⟩ := hI.2.2.2.2.2.2.1 (hr 11 (by decide +kernel)) hnot
                      refine st_list ho (wanted_none rfl) fun Q' hQ => KU_ok.append rfl (.tmp 70) (.tmp 73) rfl (d + 1) vh (.slice (some ⟨q, 0, none⟩) 1 1) (es.map Prod.fst) [h] (by simp [Act.eval, h70]) (by simp [Act.eval, h73]) hv (Lay.R.oneAt (show w6.heap[q]? = some (.cells (KU.enc h).toArray 28 (0, 0)) from hq)) (by have := HES.out.2; simp; omega) hI.1.2.1 ?_
                      intro y w7 ho7 hg7
                      exact wpList_nil (hQ _ _ ⟨y, rfl, hI.s12 (hr 7 (by decide +kernel)) hnot n13 n14 hlen ho7 hg7, fun t y _ z => W17_any p id ue vh h t _ _ y z, by rintro t' ⟨⟩; trivial⟩)
                    | 13, ho =>
                      obtain rfl := Option.some.inj ho
                      clear hg
                      obtain ⟨y, h69, o69⟩ := hI.2.2.1 (hr 7 (by decide +kernel))
                      exact st_yield ho (wanted_none rfl) y w6 (by simp [execOp, Act.eval, h69, go_sem]) ⟨_, rfl, hI.s13 (hr 6 (by decide +kernel)) (hr 7 (by decide +kernel)) (hr 11 (by decide +kernel)) (hr 12 (by decide +kernel)) hlen o69, fun _ _ _ z => z, by rintro t' ⟨⟩; trivial⟩
                    | 14, ho =>
                      obtain rfl := Option.some.inj ho
                      clear hg
                      obtain ⟨y, h74, o74⟩ := hI.2.2.2.2.1 (hr 12 (by decide +kernel))
                      exact st_yield ho (wanted_none rfl) y w6 (by simp [execOp, Act.eval, h74, go_sem]) ⟨_, rfl, hI.s14 (hr 6 (by decide +kernel)) (hr 7 (by decide +kernel)) (hr 11 (by decide +kernel)) (hr 12 (by decide +kernel)) hlen o74, fun _ _ _ z => z, by rintro t' ⟨⟩; trivial⟩
                    | n + 15, ho => simp at ho
                  · intro f w8 done hall hI hvv
                    obtain ⟨ye, h5, o5⟩ := hI.2.2.2.2.2.2.2.1 (hall 13 (by decide))
                    obtain ⟨yh, h6, o6⟩ := hI.2.2.2.2.2.2.2.2 (hall 14 (by decide))
                    have hb8 := hI.1.1
                    rw [putAll_tmps, if_pos ⟨by decide, (show (5 : Nat) < 151 by decide)⟩] at h5
                    rw [putAll_tmps, if_pos ⟨by decide, (show (6 : Nat) < 151 by decide)⟩] at h6
                    have e5 := Option.some.inj h5
                    have e6 := Option.some.inj h6
                    have HC := Go.Lib.hid (HC.out.same (hb8.block d (Nat.lt_succ_self d)))
                    have HU := Go.Lib.hid o5
                    have HV := Go.Lib.hid (show KU.O w8 (d + 1) yh ((es ++ [(h, id)]).map Prod.fst) by rw [List.map_append]; exact o6)
                    have HS := Go.Lib.hid hI.1.2.1
                    have HBX := Go.Lib.hid hI.1.2.2
                    have HB := Go.Lib.hid (HB.out.trans (hb8.mono (Nat.le_succ_of_le HD.out)))
                    have HES := Go.Lib.hid (show (∀ e ∈ es ++ [(h, id)], e.1 < 18446744073709551616) ∧ (es ++ [(h, id)]).length ≤ k + 1 from ⟨fun e he => by
                      rcases List.mem_append.1 he with he | he
                      · exact HES2.out.1 e he
                      · rw [List.mem_singleton.1 he]; exact HX.out, by rw [List.length_append, List.length_singleton]; have := HEL.out; omega⟩)
                    clear hI hvv hall hb8 o5 o6 h5 h6 x0 x1 x2 x3 HES2
                    unfold putAll
                    simp only [List.foldl]
                    simp only [e5, e6]
                    go_simp
                    clear e5 e6
                    generalize es ++ [(h, id)] = es2 at *
                    go_wp2_with fail
                    as_aux_lemma =>
                      obtain ⟨x0, x1, x2, x3⟩ := box4 HBX.out
                      have CFD := Go.Lib.hid (fun W hW => cfind_c (w := W) (HC.out.below hW) HF.out (x := h) HX.out (by have := HES.out.2; omega))
                      have CFL := Go.Lib.hid (fun W hW => find_c _ _ h W ((HU.out.below hW).r) HES.out.1 HX.out (by have := HES.out.2; omega))
                      have CLI := Go.Lib.hid (fun W hW => lies_c d _ _ _ W (HC.out.below hW) ((HU.out.below hW).r) HF.out HES.out.1 (by have := HES.out.2; omega))
                      obtain ⟨SF, hSF⟩ : ∃ SF, SF = srtF es2 h := ⟨_, rfl⟩
                      have HSF := Go.Lib.hid (fun (F : List Int) (h1 : F.Pairwise (· ≤ ·)) (h2 : F.Perm (findL es2 h)) => (srtF_of h1 h2).trans hSF.symm)
                      have CEQ := Go.Lib.hid (fun a b W (ha : KI.R W a SF) (hb : KI.R W b SF) => by have := eqI_c a b SF SF W ha hb; rw [decide_eq_true rfl] at this; exact this)
                      clear hSF
                      go_upto_region 32 with (fail)
                      refine wp_region_each (by kernel_rfl) (W32 ye d p h SF) (W32_below ye d p h SF) (by decide +kernel) (by decide +kernel) (by rfl) [135, 136, 137, 138, 139, 140, 141, 142, 143, 144, 145, 146, 147, 148, 149, 150] (by rfl) ?_ ?_
                      · intro i o ho a w6 hb6 hlen hg
                        have x0 := cell_on x0 hb6
                        have x1 := cell_on x1 hb6
                        have x2 := cell_on x2 hb6
                        have x3 := cell_on x3 hb6
                        match i, ho with
                        | 0, ho =>
                          obtain rfl := Option.some.inj ho
                          have h4 := given_old hg 4 (by decide +kernel)
                          clear hg
                          exact st_yield ho (wanted_none rfl) (.pointer (some ⟨d, 0, none⟩)) w6 (by simp [execOp, Act.eval, h4, go_sem]) ⟨_, rfl, Below.refl _ _, by rintro t' ⟨⟩; rfl⟩
                        | 1, ho =>
                          obtain rfl := Option.some.inj ho
                          have h8 := given_old hg 8 (by decide +kernel)
                          clear hg
                          exact st_yield ho (wanted_none rfl) (.pointer (some ⟨p, 3, none⟩)) w6 (by simp [execOp, Act.eval, h8, go_sem]) ⟨_, rfl, Below.refl _ _, by rintro t' ⟨⟩; rfl⟩
                        | 2, ho =>
                          obtain rfl := Option.some.inj ho
                          obtain ⟨_, h136, rfl⟩ := given_fed hg 136 (by decide +kernel)
                          clear hg
                          exact st_yield ho (wanted_none rfl) (.int .u64 (h : Int)) w6 (by simp [execOp, Act.eval, h136, go_sem, x3]) ⟨_, rfl, Below.refl _ _, by rintro t' ⟨⟩; rfl⟩
                        | 3, ho =>
                          obtain rfl := Option.some.inj ho
                          obtain ⟨_, h135, rfl⟩ := given_fed hg 135 (by decide +kernel)
                          obtain ⟨_, h137, rfl⟩ := given_fed hg 137 (by decide +kernel)
                          clear hg
                          exact st_enter (w1 := w6) ho (wanted_none rfl) 14 #[.pointer (some ⟨d, 0, none⟩), .int .u64 (h : Int)] (by simp [execOp, Act.eval, h135, h137, resolve, go_sem]) ((CFD.out _ hb6).mono (by rintro e w7 ⟨v, F, rfl, ho7, hs7, hp7, hb7⟩; obtain rfl := HSF.out F hs7 hp7; exact ⟨v, rfl, _, rfl, hb7, by rintro t' ⟨⟩; exact ho7.r⟩))
                        | 4, ho =>
                          obtain rfl := Option.some.inj ho
                          have h5 := given_old hg 5 (by decide +kernel)
                          clear hg
                          exact st_yield ho (wanted_none rfl) (ye) w6 (by simp [execOp, Act.eval, h5, go_sem]) ⟨_, rfl, Below.refl _ _, by rintro t' ⟨⟩; rfl⟩
                        | 5, ho =>
                          obtain rfl := Option.some.inj ho
                          have h8 := given_old hg 8 (by decide +kernel)
                          clear hg
                          exact st_yield ho (wanted_none rfl) (.pointer (some ⟨p, 3, none⟩)) w6 (by simp [execOp, Act.eval, h8, go_sem]) ⟨_, rfl, Below.refl _ _, by rintro t' ⟨⟩; rfl⟩
                        | 6, ho =>
                          obtain rfl := Option.some.inj ho
                          obtain ⟨_, h140, rfl⟩ := given_fed hg 140 (by decide +kernel)
                          clear hg
                          exact st_yield ho (wanted_none rfl) (.int .u64 (h : Int)) w6 (by simp [execOp, Act.eval, h140, go_sem, x3]) ⟨_, rfl, Below.refl _ _, by rintro t' ⟨⟩; rfl⟩
                        | 7, ho =>
                          obtain rfl := Option.some.inj ho
                          obtain ⟨v139', h139, p139⟩ := given_fed hg 139 (by decide +kernel)
                          have p139 : v139' = ye := p139
                          rw [p139] at h139
                          obtain ⟨_, h141, rfl⟩ := given_fed hg 141 (by decide +kernel)
                          clear hg
                          exact st_enter (w1 := w6) ho (wanted_none rfl) 15 #[ye, .int .u64 (h : Int)] (by simp [execOp, Act.eval, h139, h141, resolve, go_sem]) ((CFL.out _ hb6).mono (by rintro e w7 ⟨v, F, rfl, ho7, hs7, hp7, hb7⟩; obtain rfl := HSF.out F hs7 hp7; exact ⟨v, rfl, _, rfl, hb7, by rintro t' ⟨⟩; exact ho7⟩))
                        | 8, ho =>
                          obtain rfl := Option.some.inj ho
                          obtain ⟨v138, h138, p138⟩ := given_fed hg 138 (by decide +kernel)
                          obtain ⟨v142, h142, p142⟩ := given_fed hg 142 (by decide +kernel)
                          clear hg
                          exact st_enter (w1 := w6) ho (wanted_none rfl) 13 #[v138, v142] (by simp [execOp, Act.eval, h138, h142, resolve, go_sem]) ((CEQ.out _ _ _ p138 p142).mono (by rintro e w7 ⟨rfl, hb7⟩; exact ⟨_, rfl, _, rfl, hb7, by rintro t' ⟨⟩; rfl⟩))
                        | 9, ho =>
                          obtain rfl := Option.some.inj ho
                          obtain ⟨_, h143, rfl⟩ := given_fed hg 143 (by decide +kernel)
                          clear hg
                          exact st_yield ho (wanted_none rfl) (.bool false) w6 (by simp [execOp, Act.eval, h143, go_sem]) ⟨_, rfl, Below.refl _ _, by rintro t' ⟨⟩; rfl⟩
                        | 10, ho =>
                          obtain rfl := Option.some.inj ho
                          obtain ⟨_, h144, rfl⟩ := given_fed hg 144 (by decide +kernel)
                          clear hg
                          exact st_yield ho (wanted_none rfl) (.bool false) w6 (by simp [execOp, Act.eval, h144, go_sem]) ⟨_, rfl, Below.refl _ _, by rintro t' ⟨⟩; rfl⟩
                        | 11, ho =>
                          obtain rfl := Option.some.inj ho
                          have h4 := given_old hg 4 (by decide +kernel)
                          obtain ⟨_, h145, rfl⟩ := given_fed hg 145 (by decide +kernel)
                          clear hg
                          exact st_yield ho (wanted_some rfl rfl h145 rfl) (.pointer (some ⟨d, 0, none⟩)) w6 (by simp [execOp, Act.eval, h4, go_sem]) ⟨_, rfl, Below.refl _ _, by rintro t' ⟨⟩; rfl⟩
                        | 12, ho =>
                          obtain rfl := Option.some.inj ho
                          have h5 := given_old hg 5 (by decide +kernel)
                          obtain ⟨_, h145, rfl⟩ := given_fed hg 145 (by decide +kernel)
                          clear hg
                          exact st_yield ho (wanted_some rfl rfl h145 rfl) (ye) w6 (by simp [execOp, Act.eval, h5, go_sem]) ⟨_, rfl, Below.refl _ _, by rintro t' ⟨⟩; rfl⟩
                        | 13, ho =>
                          obtain rfl := Option.some.inj ho
                          obtain ⟨_, h146, rfl⟩ := given_fed hg 146 (by decide +kernel)
                          obtain ⟨v147', h147, p147⟩ := given_fed hg 147 (by decide +kernel)
                          have p147 : v147' = ye := p147
                          rw [p147] at h147
                          obtain ⟨_, h145, rfl⟩ := given_fed hg 145 (by decide +kernel)
                          clear hg
                          exact st_enter (w1 := w6) ho (wanted_some rfl rfl h145 rfl) 16 #[.pointer (some ⟨d, 0, none⟩), ye] (by simp [execOp, Act.eval, h146, h147, resolve, go_sem]) ((CLI.out _ hb6).mono (by rintro e w7 ⟨rfl, hb7⟩; exact ⟨_, rfl, _, rfl, hb7, by rintro t' ⟨⟩; rfl⟩))
                        | 14, ho =>
                          obtain rfl := Option.some.inj ho
                          obtain ⟨_, h148, rfl⟩ := given_fed hg 148 (by decide +kernel)
                          obtain ⟨_, h145, rfl⟩ := given_fed hg 145 (by decide +kernel)
                          clear hg
                          exact st_yield ho (wanted_some rfl rfl h145 rfl) (.bool false) w6 (by simp [execOp, Act.eval, h148, go_sem]) ⟨_, rfl, Below.refl _ _, by rintro t' ⟨⟩; rfl⟩
                        | 15, ho =>
                          obtain rfl := Option.some.inj ho
                          obtain ⟨_, h145, rfl⟩ := given_fed hg 145 (by decide +kernel)
                          obtain ⟨_, h149, rfl⟩ := given_fed hg 149 (by decide +kernel)
                          clear hg
                          exact st_yield ho (wanted_none rfl) (.bool false) w6 (by simp [execOp, Act.eval, h145, h149, go_sem]) ⟨_, rfl, Below.refl _ _, by rintro t' ⟨⟩; rfl⟩
                        | n + 16, ho => simp at ho
                      · intro f w9 hb9 hv
                        have h150 := hv 150 (by decide)
                        simp only [W32] at h150
                        have HC := Go.Lib.hid (HC.out.below hb9)
                        have HU := Go.Lib.hid (HU.out.below hb9)
                        have HV := Go.Lib.hid (HV.out.below hb9)
                        have HS := Go.Lib.hid (Nat.le_trans HS.out hb9.size)
                        have HB := Go.Lib.hid (below_to HB.out (Nat.le_refl _) hb9)
                        clear hv hb9 x0 x1 x2 x3 CFD CFL CLI CEQ
                        unfold putAll
                        simp only [List.foldl]
                        simp only [h150]
                        go_simp
                        go_wp2_with fail
                        go_roundw
                        case rel => exact ⟨k + 1, _, _, T1, es2, rfl, rfl, by have := HK.out; omega, by have := HK.out; omega, by go_num, HU.out, HV.out, HC.out, Go.Lib.hid ⟨HF.out, HES.out⟩, HS.out, HB.out⟩
                        case measure => simp only [intOf]; have := HK.out; omega
            · have hi0 : decide (0 ≤ id) = true := decide_eq_true hi0
              have hi1 : decide (id ≤ 1099511627776) = false := decide_eq_false hi1
              have HOKI := Go.Lib.hid (show idOk id = false by unfold idOk; exact decide_eq_false (fun h => by have := h.1; have := h.2; simp only [decide_eq_false_iff_not] at hi0 hi1; omega))
              clear hk0
              go_upto_region 13 with (fail)
              rw [← HWB.out, ← HP.out]
              clear HWB HP c0 c1 c2 c3 hix
              obtain ⟨x0, x1, x2, x3⟩ := box4 HBX.out
              simp only [] at x0 x1 x2 x3
              refine wp_region_each (by kernel_rfl) (W13B p id) (W13B_below p id) (by decide +kernel) (by decide +kernel) (by rfl) [36, 37, 38, 39, 40, 41, 42, 43, 44, 45, 46, 47, 48, 49, 50, 51, 52, 9] (by rfl) ?_ ?_
              · intro i o ho a w6 hb6 hlen hg
                have x0 := cell_on x0 hb6
                have x1 := cell_on x1 hb6
                have x2 := cell_on x2 hb6
                have x3 := cell_on x3 hb6
                match i, ho with
                | 0, ho =>
                  obtain rfl := Option.some.inj ho
                  have h8 := given_old hg 8 (by decide +kernel)
                  clear hg
                  exact st_yield ho (wanted_none rfl) (.pointer (some ⟨p, 1, none⟩)) w6 (by simp [execOp, Act.eval, h8, go_sem]) ⟨_, rfl, Below.refl _ _, by rintro t' ⟨⟩; rfl⟩
                | 1, ho =>
                  obtain rfl := Option.some.inj ho
                  obtain ⟨_, h36, rfl⟩ := given_fed hg 36 (by decide +kernel)
                  clear hg
                  exact st_yield ho (wanted_none rfl) (.int .i64 id) w6 (by simp [execOp, Act.eval, h36, go_sem, x1]) ⟨_, rfl, Below.refl _ _, by rintro t' ⟨⟩; rfl⟩
                | 2, ho =>
                  obtain rfl := Option.some.inj ho
                  obtain ⟨_, h37, rfl⟩ := given_fed hg 37 (by decide +kernel)
                  clear hg
                  exact st_yield ho (wanted_none rfl) (.bool true) w6 (by simp [execOp, Act.eval, h37, go_sem, hi0]) ⟨_, rfl, Below.refl _ _, by rintro t' ⟨⟩; rfl⟩
                | 3, ho =>
                  obtain rfl := Option.some.inj ho
                  obtain ⟨_, h38, rfl⟩ := given_fed hg 38 (by decide +kernel)
                  clear hg
                  exact st_yield ho (wanted_none rfl) (.bool true) w6 (by simp [execOp, Act.eval, h38, go_sem]) ⟨_, rfl, Below.refl _ _, by rintro t' ⟨⟩; rfl⟩
                | 4, ho =>
                  obtain rfl := Option.some.inj ho
                  have h8 := given_old hg 8 (by decide +kernel)
                  obtain ⟨_, h39, rfl⟩ := given_fed hg 39 (by decide +kernel)
                  clear hg
                  exact st_yield ho (wanted_some rfl rfl h39 rfl) (.pointer (some ⟨p, 1, none⟩)) w6 (by simp [execOp, Act.eval, h8, go_sem]) ⟨_, rfl, Below.refl _ _, by rintro t' ⟨⟩; rfl⟩
                | 5, ho =>
                  obtain rfl := Option.some.inj ho
                  obtain ⟨_, h40, rfl⟩ := given_fed hg 40 (by decide +kernel)
                  obtain ⟨_, h39, rfl⟩ := given_fed hg 39 (by decide +kernel)
                  clear hg
                  exact st_yield ho (wanted_some rfl rfl h39 rfl) (.int .i64 id) w6 (by simp [execOp, Act.eval, h40, go_sem, x1]) ⟨_, rfl, Below.refl _ _, by rintro t' ⟨⟩; rfl⟩
                | 6, ho =>
                  obtain rfl := Option.some.inj ho
                  obtain ⟨_, h41, rfl⟩ := given_fed hg 41 (by decide +kernel)
                  obtain ⟨_, h39, rfl⟩ := given_fed hg 39 (by decide +kernel)
                  clear hg
                  exact st_yield ho (wanted_some rfl rfl h39 rfl) (.bool false) w6 (by simp [execOp, Act.eval, h41, go_sem, hi1]) ⟨_, rfl, Below.refl _ _, by rintro t' ⟨⟩; rfl⟩
                | 7, ho =>
                  obtain rfl := Option.some.inj ho
                  obtain ⟨_, h39, rfl⟩ := given_fed hg 39 (by decide +kernel)
                  obtain ⟨_, h42, rfl⟩ := given_fed hg 42 (by decide +kernel)
                  clear hg
                  exact st_yield ho (wanted_none rfl) (.bool false) w6 (by simp [execOp, Act.eval, h39, h42, go_sem]) ⟨_, rfl, Below.refl _ _, by rintro t' ⟨⟩; rfl⟩
                | 8, ho =>
                  obtain rfl := Option.some.inj ho
                  obtain ⟨_, h43, rfl⟩ := given_fed hg 43 (by decide +kernel)
                  clear hg
                  exact st_yield ho (wanted_none rfl) (.bool false) w6 (by simp [execOp, Act.eval, h43, go_sem]) ⟨_, rfl, Below.refl _ _, by rintro t' ⟨⟩; rfl⟩
                | 9, ho =>
                  obtain rfl := Option.some.inj ho
                  obtain ⟨_, h44, rfl⟩ := given_fed hg 44 (by decide +kernel)
                  clear hg
                  exact st_skip ho (wanted_not rfl rfl h44 (by decide)) ⟨_, rfl, Below.refl _ _, by rintro t' ⟨⟩; rfl⟩
                | 10, ho =>
                  obtain rfl := Option.some.inj ho
                  obtain ⟨_, h44, rfl⟩ := given_fed hg 44 (by decide +kernel)
                  clear hg
                  exact st_skip ho (wanted_not rfl rfl h44 (by decide)) ⟨_, rfl, Below.refl _ _, by rintro t' ⟨⟩; rfl⟩
                | 11, ho =>
                  obtain rfl := Option.some.inj ho
                  obtain ⟨_, h44, rfl⟩ := given_fed hg 44 (by decide +kernel)
                  clear hg
                  exact st_skip ho (wanted_not rfl rfl h44 (by decide)) ⟨_, rfl, Below.refl _ _, by rintro t' ⟨⟩; rfl⟩
                | 12, ho =>
                  obtain rfl := Option.some.inj ho
                  obtain ⟨_, h44, rfl⟩ := given_fed hg 44 (by decide +kernel)
                  clear hg
                  exact st_skip ho (wanted_not rfl rfl h44 (by decide)) ⟨_, rfl, Below.refl _ _, by rintro t' ⟨⟩; rfl⟩
                | 13, ho =>
                  obtain rfl := Option.some.inj ho
                  obtain ⟨_, h44, rfl⟩ := given_fed hg 44 (by decide +kernel)
                  clear hg
                  exact st_skip ho (wanted_not rfl rfl h44 (by decide)) ⟨_, rfl, Below.refl _ _, by rintro t' ⟨⟩; rfl⟩
                | 14, ho =>
                  obtain rfl := Option.some.inj ho
                  obtain ⟨_, h44, rfl⟩ := given_fed hg 44 (by decide +kernel)
                  clear hg
                  exact st_skip ho (wanted_not rfl rfl h44 (by decide)) ⟨_, rfl, Below.refl _ _, by rintro t' ⟨⟩; rfl⟩
                | 15, ho =>
                  obtain rfl := Option.some.inj ho
                  obtain ⟨_, h44, rfl⟩ := given_fed hg 44 (by decide +kernel)
                  clear hg
                  exact st_skip ho (wanted_not rfl rfl h44 (by decide)) ⟨_, rfl, Below.refl _ _, by rintro t' ⟨⟩; rfl⟩
                | 16, ho =>
                  obtain rfl := Option.some.inj ho
                  obtain ⟨_, h44, rfl⟩ := given_fed hg 44 (by decide +kernel)
                  obtain ⟨_, h51, rfl⟩ := given_fed hg 51 (by decide +kernel)
                  clear hg
                  exact st_yield ho (wanted_none rfl) (.bool false) w6 (by simp [execOp, Act.eval, h44, h51, go_sem]) ⟨_, rfl, Below.refl _ _, by rintro t' ⟨⟩; rfl⟩
                | 17, ho =>
                  obtain rfl := Option.some.inj ho
                  obtain ⟨_, h52, rfl⟩ := given_fed hg 52 (by decide +kernel)
                  clear hg
                  exact st_yield ho (wanted_none rfl) (.bool false) w6 (by simp [execOp, Act.eval, h52, go_sem]) ⟨_, rfl, Below.refl _ _, by rintro t' ⟨⟩; rfl⟩
                | n + 18, ho => simp at ho
              · intro f w6 hb6 hvv
                have h9 := hvv 9 (by decide)
                simp only [W13B] at h9
                have HU := Go.Lib.hid (HU.out.below hb6)
                have HV := Go.Lib.hid (HV.out.below hb6)
                have HC := Go.Lib.hid (HC.out.below hb6)
                have HS := Go.Lib.hid (Nat.le_trans HS.out hb6.size)
                have HB := Go.Lib.hid (below_to HB.out (Nat.le_refl _) hb6)
                have HBX := Go.Lib.hid (block_kept HBX.out hb6)
                clear hvv hb6 x0 x1 x2 x3
                obtain ⟨x0, x1, x2, x3⟩ := box4 HBX.out
                simp only [] at x0 x1 x2 x3
                unfold putAll
                simp only [List.foldl]
                simp only [h9]
                go_simp
                clear h9
                go_wp2_with fail
                refine (cinsert_no HC.out HF.out (x := h) (i := id) HX.out HWI.out (by rw [HOKI.out, Bool.false_and])).mono ?_
                rintro e w7 ⟨rfl, hb6⟩
                have HU := Go.Lib.hid (HU.out.below hb6)
                have HV := Go.Lib.hid (HV.out.below hb6)
                have HC := Go.Lib.hid (HC.out.below hb6)
                have HS := Go.Lib.hid (Nat.le_trans HS.out hb6.size)
                have HB := Go.Lib.hid (below_to HB.out (Nat.le_refl _) hb6)
                have HBX := Go.Lib.hid (block_kept HBX.out hb6)
                clear hb6 x0 x1 x2 x3
                go_wp2_with fail
                as_aux_lemma =>
                  obtain ⟨x0, x1, x2, x3⟩ := box4 HBX.out
                  have CFD := Go.Lib.hid (fun W hW => cfind_c (w := W) (HC.out.below hW) HF.out (x := h) HX.out (by have := HES.out.2; omega))
                  have CFL := Go.Lib.hid (fun W hW => find_c _ _ h W ((HU.out.below hW).r) HES.out.1 HX.out (by have := HES.out.2; omega))
                  have CLI := Go.Lib.hid (fun W hW => lies_c d _ _ _ W (HC.out.below hW) ((HU.out.below hW).r) HF.out HES.out.1 (by have := HES.out.2; omega))
                  obtain ⟨SF, hSF⟩ : ∃ SF, SF = srtF es h := ⟨_, rfl⟩
                  have HSF := Go.Lib.hid (fun (F : List Int) (h1 : F.Pairwise (· ≤ ·)) (h2 : F.Perm (findL es h)) => (srtF_of h1 h2).trans hSF.symm)
                  have CEQ := Go.Lib.hid (fun a b W (ha : KI.R W a SF) (hb : KI.R W b SF) => by have := eqI_c a b SF SF W ha hb; rw [decide_eq_true rfl] at this; exact this)
                  clear hSF
                  go_upto_region 32 with (fail)
                  refine wp_region_each (by kernel_rfl) (W32 ue d p h SF) (W32_below ue d p h SF) (by decide +kernel) (by decide +kernel) (by rfl) [135, 136, 137, 138, 139, 140, 141, 142, 143, 144, 145, 146, 147, 148, 149, 150] (by rfl) ?_ ?_
                  · intro i o ho a w6 hb6 hlen hg
                    have x0 := cell_on x0 hb6
                    have x1 := cell_on x1 hb6
                    have x2 := cell_on x2 hb6
                    have x3 := cell_on x3 hb6
                    match i, ho with
                    | 0, ho =>
                      obtain rfl := Option.some.inj ho
                      have h4 := given_old hg 4 (by decide +kernel)
                      clear hg
                      exact st_yield ho (wanted_none rfl) (.pointer (some ⟨d, 0, none⟩)) w6 (by simp [execOp, Act.eval, h4, go_sem]) ⟨_, rfl, Below.refl _ _, by rintro t' ⟨⟩; rfl⟩
                    | 1, ho =>
                      obtain rfl := Option.some.inj ho
                      have h8 := given_old hg 8 (by decide +kernel)
                      clear hg
                      exact st_yield ho (wanted_none rfl) (.pointer (some ⟨p, 3, none⟩)) w6 (by simp [execOp, Act.eval, h8, go_sem]) ⟨_, rfl, Below.refl _ _, by rintro t' ⟨⟩; rfl⟩
                    | 2, ho =>
                      obtain rfl := Option.some.inj ho
                      obtain ⟨_, h136, rfl⟩ := given_fed hg 136 (by decide +kernel)
                      clear hg
                      exact st_yield ho (wanted_none rfl) (.int .u64 (h : Int)) w6 (by simp [execOp, Act.eval, h136, go_sem, x3]) ⟨_, rfl, Below.refl _ _, by rintro t' ⟨⟩; rfl⟩
                    | 3, ho =>
                      obtain rfl := Option.some.inj ho
                      obtain ⟨_, h135, rfl⟩ := given_fed hg 135 (by decide +kernel)
                      obtain ⟨_, h137, rfl⟩ := given_fed hg 137 (by decide +kernel)
                      clear hg
                      exact st_enter (w1 := w6) ho (wanted_none rfl) 14 #[.pointer (some ⟨d, 0, none⟩), .int .u64 (h : Int)] (by simp [execOp, Act.eval, h135, h137, resolve, go_sem]) ((CFD.out _ hb6).mono (by rintro e w7 ⟨v, F, rfl, ho7, hs7, hp7, hb7⟩; obtain rfl := HSF.out F hs7 hp7; exact ⟨v, rfl, _, rfl, hb7, by rintro t' ⟨⟩; exact ho7.r⟩))
                    | 4, ho =>
                      obtain rfl := Option.some.inj ho
                      have h5 := given_old hg 5 (by decide +kernel)
                      clear hg
                      exact st_yield ho (wanted_none rfl) (ue) w6 (by simp [execOp, Act.eval, h5, go_sem]) ⟨_, rfl, Below.refl _ _, by rintro t' ⟨⟩; rfl⟩
                    | 5, ho =>
                      obtain rfl := Option.some.inj ho
                      have h8 := given_old hg 8 (by decide +kernel)
                      clear hg
                      exact st_yield ho (wanted_none rfl) (.pointer (some ⟨p, 3, none⟩)) w6 (by simp [execOp, Act.eval, h8, go_sem]) ⟨_, rfl, Below.refl _ _, by rintro t' ⟨⟩; rfl⟩
                    | 6, ho =>
                      obtain rfl := Option.some.inj ho
                      obtain ⟨_, h140, rfl⟩ := given_fed hg 140 (by decide +kernel)
                      clear hg
                      exact st_yield ho (wanted_none rfl) (.int .u64 (h : Int)) w6 (by simp [execOp, Act.eval, h140, go_sem, x3]) ⟨_, rfl, Below.refl _ _, by rintro t' ⟨⟩; rfl⟩
                    | 7, ho =>
                      obtain rfl := Option.some.inj ho
                      obtain ⟨v139', h139, p139⟩ := given_fed hg 139 (by decide +kernel)
                      have p139 : v139' = ue := p139
                      rw [p139] at h139
                      obtain ⟨_, h141, rfl⟩ := given_fed hg 141 (by decide +kernel)
                      clear hg
                      exact st_enter (w1 := w6) ho (wanted_none rfl) 15 #[ue, .int .u64 (h : Int)] (by simp [execOp, Act.eval, h139, h141, resolve, go_sem]) ((CFL.out _ hb6).mono (by rintro e w7 ⟨v, F, rfl, ho7, hs7, hp7, hb7⟩; obtain rfl := HSF.out F hs7 hp7; exact ⟨v, rfl, _, rfl, hb7, by rintro t' ⟨⟩; exact ho7⟩))
                    | 8, ho =>
                      obtain rfl := Option.some.inj ho
                      obtain ⟨v138, h138, p138⟩ := given_fed hg 138 (by decide +kernel)
                      obtain ⟨v142, h142, p142⟩ := given_fed hg 142 (by decide +kernel)
                      clear hg
                      exact st_enter (w1 := w6) ho (wanted_none rfl) 13 #[v138, v142] (by simp [execOp, Act.eval, h138, h142, resolve, go_sem]) ((CEQ.out _ _ _ p138 p142).mono (by rintro e w7 ⟨rfl, hb7⟩; exact ⟨_, rfl, _, rfl, hb7, by rintro t' ⟨⟩; rfl⟩))
                    | 9, ho =>
                      obtain rfl := Option.some.inj ho
                      obtain ⟨_, h143, rfl⟩ := given_fed hg 143 (by decide +kernel)
                      clear hg
                      exact st_yield ho (wanted_none rfl) (.bool false) w6 (by simp [execOp, Act.eval, h143, go_sem]) ⟨_, rfl, Below.refl _ _, by rintro t' ⟨⟩; rfl⟩
                    | 10, ho =>
                      obtain rfl := Option.some.inj ho
                      obtain ⟨_, h144, rfl⟩ := given_fed hg 144 (by decide +kernel)
                      clear hg
                      exact st_yield ho (wanted_none rfl) (.bool false) w6 (by simp [execOp, Act.eval, h144, go_sem]) ⟨_, rfl, Below.refl _ _, by rintro t' ⟨⟩; rfl⟩
                    | 11, ho =>
                      obtain rfl := Option.some.inj ho
                      have h4 := given_old hg 4 (by decide +kernel)
                      obtain ⟨_, h145, rfl⟩ := given_fed hg 145 (by decide +kernel)
                      clear hg
                      exact st_yield ho (wanted_some rfl rfl h145 rfl) (.pointer (some ⟨d, 0, none⟩)) w6 (by simp [execOp, Act.eval, h4, go_sem]) ⟨_, rfl, Below.refl _ _, by rintro t' ⟨⟩; rfl⟩
                    | 12, ho =>
                      obtain rfl := Option.some.inj ho
                      have h5 := given_old hg 5 (by decide +kernel)
                      obtain ⟨_, h145, rfl⟩ := given_fed hg 145 (by decide +kernel)
                      clear hg
                      exact st_yield ho (wanted_some rfl rfl h145 rfl) (ue) w6 (by simp [execOp, Act.eval, h5, go_sem]) ⟨_, rfl, Below.refl _ _, by rintro t' ⟨⟩; rfl⟩
                    | 13, ho =>
                      obtain rfl := Option.some.inj ho
                      obtain ⟨_, h146, rfl⟩ := given_fed hg 146 (by decide +kernel)
                      obtain ⟨v147', h147, p147⟩ := given_fed hg 147 (by decide +kernel)
                      have p147 : v147' = ue := p147
                      rw [p147] at h147
                      obtain ⟨_, h145, rfl⟩ := given_fed hg 145 (by decide +kernel)
                      clear hg
                      exact st_enter (w1 := w6) ho (wanted_some rfl rfl h145 rfl) 16 #[.pointer (some ⟨d, 0, none⟩), ue] (by simp [execOp, Act.eval, h146, h147, resolve, go_sem]) ((CLI.out _ hb6).mono (by rintro e w7 ⟨rfl, hb7⟩; exact ⟨_, rfl, _, rfl, hb7, by rintro t' ⟨⟩; rfl⟩))
                    | 14, ho =>
                      obtain rfl := Option.some.inj ho
                      obtain ⟨_, h148, rfl⟩ := given_fed hg 148 (by decide +kernel)
                      obtain ⟨_, h145, rfl⟩ := given_fed hg 145 (by decide +kernel)
                      clear hg
                      exact st_yield ho (wanted_some rfl rfl h145 rfl) (.bool false) w6 (by simp [execOp, Act.eval, h148, go_sem]) ⟨_, rfl, Below.refl _ _, by rintro t' ⟨⟩; rfl⟩
                    | 15, ho =>
                      obtain rfl := Option.some.inj ho
                      obtain ⟨_, h145, rfl⟩ := given_fed hg 145 (by decide +kernel)
                      obtain ⟨_, h149, rfl⟩ := given_fed hg 149 (by decide +kernel)
                      clear hg
                      exact st_yield ho (wanted_none rfl) (.bool false) w6 (by simp [execOp, Act.eval, h145, h149, go_sem]) ⟨_, rfl, Below.refl _ _, by rintro t' ⟨⟩; rfl⟩
                    | n + 16, ho => simp at ho
                  · intro f w9 hb9 hv
                    have h150 := hv 150 (by decide)
                    simp only [W32] at h150
                    have HC := Go.Lib.hid (HC.out.below hb9)
                    have HU := Go.Lib.hid (HU.out.below hb9)
                    have HV := Go.Lib.hid (HV.out.below hb9)
                    have HS := Go.Lib.hid (Nat.le_trans HS.out hb9.size)
                    have HB := Go.Lib.hid (below_to HB.out (Nat.le_refl _) hb9)
                    clear hv hb9 x0 x1 x2 x3 CFD CFL CLI CEQ
                    unfold putAll
                    simp only [List.foldl]
                    simp only [h150]
                    go_simp
                    go_wp2_with fail
                    go_roundw
                    case rel => exact ⟨k + 1, _, _, T, es, rfl, rfl, by have := HK.out; omega, by have := HK.out; omega, by go_num, HU.out, HV.out, HC.out, Go.Lib.hid ⟨HF.out, HES.out⟩, HS.out, HB.out⟩
                    case measure => simp only [intOf]; have := HK.out; omega
          · have hi0 : decide (0 ≤ id) = false := decide_eq_false hi0
            have HOKI := Go.Lib.hid (show idOk id = false by unfold idOk; exact decide_eq_false (fun h => by have := h.1; have := h.2; simp only [decide_eq_false_iff_not] at hi0; omega))
            clear hk0
            go_upto_region 13 with (fail)
            rw [← HWB.out, ← HP.out]
            clear HWB HP c0 c1 c2 c3 hix
            obtain ⟨x0, x1, x2, x3⟩ := box4 HBX.out
            simp only [] at x0 x1 x2 x3
            refine wp_region_each (by kernel_rfl) (W13A p id) (W13A_below p id) (by decide +kernel) (by decide +kernel) (by rfl) [36, 37, 38, 39, 40, 41, 42, 43, 44, 45, 46, 47, 48, 49, 50, 51, 52, 9] (by rfl) ?_ ?_
            · intro i o ho a w6 hb6 hlen hg
              have x0 := cell_on x0 hb6
              have x1 := cell_on x1 hb6
              have x2 := cell_on x2 hb6
              have x3 := cell_on x3 hb6
              match i, ho with
              | 0, ho =>
                obtain rfl := Option.some.inj ho
                have h8 := given_old hg 8 (by decide +kernel)
                clear hg
                exact st_yield ho (wanted_none rfl) (.pointer (some ⟨p, 1, none⟩)) w6 (by simp [execOp, Act.eval, h8, go_sem]) ⟨_, rfl, Below.refl _ _, by rintro t' ⟨⟩; rfl⟩
              | 1, ho =>
                obtain rfl := Option.some.inj ho
                obtain ⟨_, h36, rfl⟩ := given_fed hg 36 (by decide +kernel)
                clear hg
                exact st_yield ho (wanted_none rfl) (.int .i64 id) w6 (by simp [execOp, Act.eval, h36, go_sem, x1]) ⟨_, rfl, Below.refl _ _, by rintro t' ⟨⟩; rfl⟩
              | 2, ho =>
                obtain rfl := Option.some.inj ho
                obtain ⟨_, h37, rfl⟩ := given_fed hg 37 (by decide +kernel)
                clear hg
                exact st_yield ho (wanted_none rfl) (.bool false) w6 (by simp [execOp, Act.eval, h37, go_sem, hi0]) ⟨_, rfl, Below.refl _ _, by rintro t' ⟨⟩; rfl⟩
              | 3, ho =>
                obtain rfl := Option.some.inj ho
                obtain ⟨_, h38, rfl⟩ := given_fed hg 38 (by decide +kernel)
                clear hg
                exact st_yield ho (wanted_none rfl) (.bool false) w6 (by simp [execOp, Act.eval, h38, go_sem]) ⟨_, rfl, Below.refl _ _, by rintro t' ⟨⟩; rfl⟩
              | 4, ho =>
                obtain rfl := Option.some.inj ho
                obtain ⟨_, h39, rfl⟩ := given_fed hg 39 (by decide +kernel)
                clear hg
                exact st_skip ho (wanted_not rfl rfl h39 (by decide)) ⟨_, rfl, Below.refl _ _, by rintro t' ⟨⟩; rfl⟩
              | 5, ho =>
                obtain rfl := Option.some.inj ho
                obtain ⟨_, h39, rfl⟩ := given_fed hg 39 (by decide +kernel)
                clear hg
                exact st_skip ho (wanted_not rfl rfl h39 (by decide)) ⟨_, rfl, Below.refl _ _, by rintro t' ⟨⟩; rfl⟩
              | 6, ho =>
                obtain rfl := Option.some.inj ho
                obtain ⟨_, h39, rfl⟩ := given_fed hg 39 (by decide +kernel)
                clear hg
                exact st_skip ho (wanted_not rfl rfl h39 (by decide)) ⟨_, rfl, Below.refl _ _, by rintro t' ⟨⟩; rfl⟩
              | 7, ho =>
                obtain rfl := Option.some.inj ho
                obtain ⟨_, h39, rfl⟩ := given_fed hg 39 (by decide +kernel)
                obtain ⟨_, h42, rfl⟩ := given_fed hg 42 (by decide +kernel)
                clear hg
                exact st_yield ho (wanted_none rfl) (.bool false) w6 (by simp [execOp, Act.eval, h39, h42, go_sem]) ⟨_, rfl, Below.refl _ _, by rintro t' ⟨⟩; rfl⟩
              | 8, ho =>
                obtain rfl := Option.some.inj ho
                obtain ⟨_, h43, rfl⟩ := given_fed hg 43 (by decide +kernel)
                clear hg
                exact st_yield ho (wanted_none rfl) (.bool false) w6 (by simp [execOp, Act.eval, h43, go_sem]) ⟨_, rfl, Below.refl _ _, by rintro t' ⟨⟩; rfl⟩
              | 9, ho =>
                obtain rfl := Option.some.inj ho
                obtain ⟨_, h44, rfl⟩ := given_fed hg 44 (by decide +kernel)
                clear hg
                exact st_skip ho (wanted_not rfl rfl h44 (by decide)) ⟨_, rfl, Below.refl _ _, by rintro t' ⟨⟩; rfl⟩
              | 10, ho =>
                obtain rfl := Option.some.inj ho
                obtain ⟨_, h44, rfl⟩ := given_fed hg 44 (by decide +kernel)
                clear hg
                exact st_skip ho (wanted_not rfl rfl h44 (by decide)) ⟨_, rfl, Below.refl _ _, by rintro t' ⟨⟩; rfl⟩
              | 11, ho =>
                obtain rfl := Option.some.inj ho
                obtain ⟨_, h44, rfl⟩ := given_fed hg 44 (by decide +kernel)
                clear hg
                exact st_skip ho (wanted_not rfl rfl h44 (by decide)) ⟨_, rfl, Below.refl _ _, by rintro t' ⟨⟩; rfl⟩
              | 12, ho =>
                obtain rfl := Option.some.inj ho
                obtain ⟨_, h44, rfl⟩ := given_fed hg 44 (by decide +kernel)
                clear hg
                exact st_skip ho (wanted_not rfl rfl h44 (by decide)) ⟨_, rfl, Below.refl _ _, by rintro t' ⟨⟩; rfl⟩
              | 13, ho =>
                obtain rfl := Option.some.inj ho
                obtain ⟨_, h44, rfl⟩ := given_fed hg 44 (by decide +kernel)
                clear hg
                exact st_skip ho (wanted_not rfl rfl h44 (by decide)) ⟨_, rfl, Below.refl _ _, by rintro t' ⟨⟩; rfl⟩
              | 14, ho =>
                obtain rfl := Option.some.inj ho
                obtain ⟨_, h44, rfl⟩ := given_fed hg 44 (by decide +kernel)
                clear hg
                exact st_skip ho (wanted_not rfl rfl h44 (by decide)) ⟨_, rfl, Below.refl _ _, by rintro t' ⟨⟩; rfl⟩
              | 15, ho =>
                obtain rfl := Option.some.inj ho
                obtain ⟨_, h44, rfl⟩ := given_fed hg 44 (by decide +kernel)
                clear hg
                exact st_skip ho (wanted_not rfl rfl h44 (by decide)) ⟨_, rfl, Below.refl _ _, by rintro t' ⟨⟩; rfl⟩
              | 16, ho =>
                obtain rfl := Option.some.inj ho
                obtain ⟨_, h44, rfl⟩ := given_fed hg 44 (by decide +kernel)
                obtain ⟨_, h51, rfl⟩ := given_fed hg 51 (by decide +kernel)
                clear hg
                exact st_yield ho (wanted_none rfl) (.bool false) w6 (by simp [execOp, Act.eval, h44, h51, go_sem]) ⟨_, rfl, Below.refl _ _, by rintro t' ⟨⟩; rfl⟩
              | 17, ho =>
                obtain rfl := Option.some.inj ho
                obtain ⟨_, h52, rfl⟩ := given_fed hg 52 (by decide +kernel)
                clear hg
                exact st_yield ho (wanted_none rfl) (.bool false) w6 (by simp [execOp, Act.eval, h52, go_sem]) ⟨_, rfl, Below.refl _ _, by rintro t' ⟨⟩; rfl⟩
              | n + 18, ho => simp at ho
            · intro f w6 hb6 hvv
              have h9 := hvv 9 (by decide)
              simp only [W13A] at h9
              have HU := Go.Lib.hid (HU.out.below hb6)
              have HV := Go.Lib.hid (HV.out.below hb6)
              have HC := Go.Lib.hid (HC.out.below hb6)
              have HS := Go.Lib.hid (Nat.le_trans HS.out hb6.size)
              have HB := Go.Lib.hid (below_to HB.out (Nat.le_refl _) hb6)
              have HBX := Go.Lib.hid (block_kept HBX.out hb6)
              clear hvv hb6 x0 x1 x2 x3
              obtain ⟨x0, x1, x2, x3⟩ := box4 HBX.out
              simp only [] at x0 x1 x2 x3
              unfold putAll
              simp only [List.foldl]
              simp only [h9]
              go_simp
              clear h9
              go_wp2_with fail
              refine (cinsert_no HC.out HF.out (x := h) (i := id) HX.out HWI.out (by rw [HOKI.out, Bool.false_and])).mono ?_
              rintro e w7 ⟨rfl, hb6⟩
              have HU := Go.Lib.hid (HU.out.below hb6)
              have HV := Go.Lib.hid (HV.out.below hb6)
              have HC := Go.Lib.hid (HC.out.below hb6)
              have HS := Go.Lib.hid (Nat.le_trans HS.out hb6.size)
              have HB := Go.Lib.hid (below_to HB.out (Nat.le_refl _) hb6)
              have HBX := Go.Lib.hid (block_kept HBX.out hb6)
              clear hb6 x0 x1 x2 x3
              go_wp2_with fail
              as_aux_lemma =>
                obtain ⟨x0, x1, x2, x3⟩ := box4 HBX.out
                have CFD := Go.Lib.hid (fun W hW => cfind_c (w := W) (HC.out.below hW) HF.out (x := h) HX.out (by have := HES.out.2; omega))
                have CFL := Go.Lib.hid (fun W hW => find_c _ _ h W ((HU.out.below hW).r) HES.out.1 HX.out (by have := HES.out.2; omega))
                have CLI := Go.Lib.hid (fun W hW => lies_c d _ _ _ W (HC.out.below hW) ((HU.out.below hW).r) HF.out HES.out.1 (by have := HES.out.2; omega))
                obtain ⟨SF, hSF⟩ : ∃ SF, SF = srtF es h := ⟨_, rfl⟩
                have HSF := Go.Lib.hid (fun (F : List Int) (h1 : F.Pairwise (· ≤ ·)) (h2 : F.Perm (findL es h)) => (srtF_of h1 h2).trans hSF.symm)
                have CEQ := Go.Lib.hid (fun a b W (ha : KI.R W a SF) (hb : KI.R W b SF) => by have := eqI_c a b SF SF W ha hb; rw [decide_eq_true rfl] at this; exact this)
                clear hSF
                go_upto_region 32 with (fail)
                refine wp_region_each (by kernel_rfl) (W32 ue d p h SF) (W32_below ue d p h SF) (by decide +kernel) (by decide +kernel) (by rfl) [135, 136, 137, 138, 139, 140, 141, 142, 143, 144, 145, 146, 147, 148, 149, 150] (by rfl) ?_ ?_
                · intro i o ho a w6 hb6 hlen hg
                  have x0 := cell_on x0 hb6
                  have x1 := cell_on x1 hb6
                  have x2 := cell_on x2 hb6
                  have x3 := cell_on x3 hb6
                  match i, ho with
                  | 0, ho =>
                    obtain rfl := Option.some.inj ho
                    have h4 := given_old hg 4 (by decide +kernel)
                    clear hg
                    exact st_yield ho (wanted_none rfl) (.pointer (some ⟨d, 0, none⟩)) w6 (by simp [execOp, Act.eval, h4, go_sem]) ⟨_, rfl, Below.refl _ _, by rintro t' ⟨⟩; rfl⟩
                  | 1, ho =>
                    obtain rfl := Option.some.inj ho
                    have h8 := given_old hg 8 (by decide +kernel)
                    clear hg
                    exact st_yield ho (wanted_none rfl) (.pointer (some ⟨p, 3, none⟩)) w6 (by simp [execOp, Act.eval, h8, go_sem]) ⟨_, rfl, Below.refl _ _, by rintro t' ⟨⟩; rfl⟩
                  | 2, ho =>
                    obtain rfl := Option.some.inj ho
                    obtain ⟨_, h136, rfl⟩ := given_fed hg 136 (by decide +kernel)
                    clear hg
                    exact st_yield ho (wanted_none rfl) (.int .u64 (h : Int)) w6 (by simp [execOp, Act.eval, h136, go_sem, x3]) ⟨_, rfl, Below.refl _ _, by rintro t' ⟨⟩; rfl⟩
                  | 3, ho =>
                    obtain rfl := Option.some.inj ho
                    obtain ⟨_, h135, rfl⟩ := given_fed hg 135 (by decide +kernel)
                    obtain ⟨_, h137, rfl⟩ := given_fed hg 137 (by decide +kernel)
                    clear hg
                    exact st_enter (w1 := w6) ho (wanted_none rfl) 14 #[.pointer (some ⟨d, 0, none⟩), .int .u64 (h : Int)] (by simp [execOp, Act.eval, h135, h137, resolve, go_sem]) ((CFD.out _ hb6).mono (by rintro e w7 ⟨v, F, rfl, ho7, hs7, hp7, hb7⟩; obtain rfl := HSF.out F hs7 hp7; exact ⟨v, rfl, _, rfl, hb7, by rintro t' ⟨⟩; exact ho7.r⟩))
                  | 4, ho =>
                    obtain rfl := Option.some.inj ho
                    have h5 := given_old hg 5 (by decide +kernel)
                    clear hg
                    exact st_yield ho (wanted_none rfl) (ue) w6 (by simp [execOp, Act.eval, h5, go_sem]) ⟨_, rfl, Below.refl _ _, by rintro t' ⟨⟩; rfl⟩
                  | 5, ho =>
                    obtain rfl := Option.some.inj ho
                    have h8 := given_old hg 8 (by decide +kernel)
                    clear hg
                    exact st_yield ho (wanted_none rfl) (.pointer (some ⟨p, 3, none⟩)) w6 (by simp [execOp, Act.eval, h8, go_sem]) ⟨_, rfl, Below.refl _ _, by rintro t' ⟨⟩; rfl⟩
                  | 6, ho =>
                    obtain rfl := Option.some.inj ho
                    obtain ⟨_, h140, rfl⟩ := given_fed hg 140 (by decide +kernel)
                    clear hg
                    exact st_yield ho (wanted_none rfl) (.int .u64 (h : Int)) w6 (by simp [execOp, Act.eval, h140, go_sem, x3]) ⟨_, rfl, Below.refl _ _, by rintro t' ⟨⟩; rfl⟩
                  | 7, ho =>
                    obtain rfl := Option.some.inj ho
                    obtain ⟨v139', h139, p139⟩ := given_fed hg 139 (by decide +kernel)
                    have p139 : v139' = ue := p139
                    rw [p139] at h139
                    obtain ⟨_, h141, rfl⟩ := given_fed hg 141 (by decide +kernel)
                    clear hg
                    exact st_enter (w1 := w6) ho (wanted_none rfl) 15 #[ue, .int .u64 (h : Int)] (by simp [execOp, Act.eval, h139, h141, resolve, go_sem]) ((CFL.out _ hb6).mono (by rintro e w7 ⟨v, F, rfl, ho7, hs7, hp7, hb7⟩; obtain rfl := HSF.out F hs7 hp7; exact ⟨v, rfl, _, rfl, hb7, by rintro t' ⟨⟩; exact ho7⟩))
                  | 8, ho =>
                    obtain rfl := Option.some.inj ho
                    obtain ⟨v138, h138, p138⟩ := given_fed hg 138 (by decide +kernel)
                    obtain ⟨v142, h142, p142⟩ := given_fed hg 142 (by decide +kernel)
                    clear hg
                    exact st_enter (w1 := w6) ho (wanted_none rfl) 13 #[v138, v142] (by simp [execOp, Act.eval, h138, h142, resolve, go_sem]) ((CEQ.out _ _ _ p138 p142).mono (by rintro e w7 ⟨rfl, hb7⟩; exact ⟨_, rfl, _, rfl, hb7, by rintro t' ⟨⟩; rfl⟩))
                  | 9, ho =>
                    obtain rfl := Option.some.inj ho
                    obtain ⟨_, h143, rfl⟩ := given_fed hg 143 (by decide +kernel)
                    clear hg
                    exact st_yield ho (wanted_none rfl) (.bool false) w6 (by simp [execOp, Act.eval, h143, go_sem]) ⟨_, rfl, Below.refl _ _, by rintro t' ⟨⟩; rfl⟩
                  | 10, ho =>
                    obtain rfl := Option.some.inj ho
                    obtain ⟨_, h144, rfl⟩ := given_fed hg 144 (by decide +kernel)
                    clear hg
                    exact st_yield ho (wanted_none rfl) (.bool false) w6 (by simp [execOp, Act.eval, h144, go_sem]) ⟨_, rfl, Below.refl _ _, by rintro t' ⟨⟩; rfl⟩
                  | 11, ho =>
                    obtain rfl := Option.some.inj ho
                    have h4 := given_old hg 4 (by decide +kernel)
                    obtain ⟨_, h145, rfl⟩ := given_fed hg 145 (by decide +kernel)
                    clear hg
                    exact st_yield ho (wanted_some rfl rfl h145 rfl) (.pointer (some ⟨d, 0, none⟩)) w6 (by simp [execOp, Act.eval, h4, go_sem]) ⟨_, rfl, Below.refl _ _, by rintro t' ⟨⟩; rfl⟩
                  | 12, ho =>
                    obtain rfl := Option.some.inj ho
                    have h5 := given_old hg 5 (by decide +kernel)
                    obtain ⟨_, h145, rfl⟩ := given_fed hg 145 (by decide +kernel)
                    clear hg
                    exact st_yield ho (wanted_some rfl rfl h145 rfl) (ue) w6 (by simp [execOp, Act.eval, h5, go_sem]) ⟨_, rfl, Below.refl _ _, by rintro t' ⟨⟩; rfl⟩
                  | 13, ho =>
                    obtain rfl := Option.some.inj ho
                    obtain ⟨_, h146, rfl⟩ := given_fed hg 146 (by decide +kernel)
                    obtain ⟨v147', h147, p147⟩ := given_fed hg 147 (by decide +kernel)
                    have p147 : v147' = ue := p147
                    rw [p147] at h147
                    obtain ⟨_, h145, rfl⟩ := given_fed hg 145 (by decide +kernel)
                    clear hg
                    exact st_enter (w1 := w6) ho (wanted_some rfl rfl h145 rfl) 16 #[.pointer (some ⟨d, 0, none⟩), ue] (by simp [execOp, Act.eval, h146, h147, resolve, go_sem]) ((CLI.out _ hb6).mono (by rintro e w7 ⟨rfl, hb7⟩; exact ⟨_, rfl, _, rfl, hb7, by rintro t' ⟨⟩; rfl⟩))
                  | 14, ho =>
                    obtain rfl := Option.some.inj ho
                    obtain ⟨_, h148, rfl⟩ := given_fed hg 148 (by decide +kernel)
                    obtain ⟨_, h145, rfl⟩ := given_fed hg 145 (by decide +kernel)
                    clear hg
                    exact st_yield ho (wanted_some rfl rfl h145 rfl) (.bool false) w6 (by simp [execOp, Act.eval, h148, go_sem]) ⟨_, rfl, Below.refl _ _, by rintro t' ⟨⟩; rfl⟩
                  | 15, ho =>
                    obtain rfl := Option.some.inj ho
                    obtain ⟨_, h145, rfl⟩ := given_fed hg 145 (by decide +kernel)
                    obtain ⟨_, h149, rfl⟩ := given_fed hg 149 (by decide +kernel)
                    clear hg
                    exact st_yield ho (wanted_none rfl) (.bool false) w6 (by simp [execOp, Act.eval, h145, h149, go_sem]) ⟨_, rfl, Below.refl _ _, by rintro t' ⟨⟩; rfl⟩
                  | n + 16, ho => simp at ho
                · intro f w9 hb9 hv
                  have h150 := hv 150 (by decide)
                  simp only [W32] at h150
                  have HC := Go.Lib.hid (HC.out.below hb9)
                  have HU := Go.Lib.hid (HU.out.below hb9)
                  have HV := Go.Lib.hid (HV.out.below hb9)
                  have HS := Go.Lib.hid (Nat.le_trans HS.out hb9.size)
                  have HB := Go.Lib.hid (below_to HB.out (Nat.le_refl _) hb9)
                  clear hv hb9 x0 x1 x2 x3 CFD CFL CLI CEQ
                  unfold putAll
                  simp only [List.foldl]
                  simp only [h150]
                  go_simp
                  go_wp2_with fail
                  go_roundw
                  case rel => exact ⟨k + 1, _, _, T, es, rfl, rfl, by have := HK.out; omega, by have := HK.out; omega, by go_num, HU.out, HV.out, HC.out, Go.Lib.hid ⟨HF.out, HES.out⟩, HS.out, HB.out⟩
                  case measure => simp only [intOf]; have := HK.out; omega
        · have hb0 : (kd == 0) = false := by simp [hk0]
          by_cases hk1 : kd = 1
          · have hb1 : (kd == 1) = true := by simp [hk1]
            clear hk0 hk1
            obtain ⟨au, cu, rfl, hum⟩ := HU.out.r.form
            have hel60 : es.length ≤ 60 := by have := HEL.out; omega
            go_wp2_with fail
            rw [← HWB.out, ← HP.out]
            clear HWB HP c0 c1 c2 c3 hix
            go_loopw [10, 11, 12] (fun av mv jv w3 => ∃ (j m : Nat) (ai : Int), j ≤ es.length ∧ m ≤ j ∧ av = .int .i64 ai ∧ mv = .int .i64 (m : Int) ∧ jv = .int .i64 (j : Int) ∧ Hid (FoundO es h od j ai) ∧ Below wb.heap.size wb w3) (fun _ _ jv _ => es.length - (intOf jv).toNat)
            case atStart => exact ⟨0, 0, -1, by omega, by omega, rfl, rfl, rfl, Go.Lib.hid (.inl ⟨rfl, fun r hr h => by omega⟩), Below.refl _ _⟩
            case round =>
              obtain ⟨j, m, ai, hj, hmj, rfl, rfl, rfl, hfo, hb3⟩ := hrel
              have hm60 : m ≤ 60 := by omega
              by_cases hjl : j < es.length
              · obtain ⟨q, qo, rfl, -, -, e0, e1⟩ := KE.at' ((HU.out.below hb3).r) j hjl
                have hixe := idxE' q qo es.length cu j hjl
                obtain ⟨x0, x1, x2, x3⟩ := box4 (block_kept HBX.out hb3)
                simp only [] at x0 x1 x2 x3
                have CN := Go.Lib.hid fun W => rnear_c h es[j].1 W HX.out (HES.out.1 _ (List.getElem_mem hjl))
                have HNO := Go.Lib.hid (fun hk => hfo.out.no hjl hk)
                have HYES := Go.Lib.hid (fun h1 h2 => FoundO.yes (x := h) (old := od) hjl h1 h2)
                obtain ⟨en, hen⟩ : ∃ en, en = es[j].1 := ⟨_, rfl⟩
                obtain ⟨ei, hei⟩ : ∃ ei, ei = es[j].2 := ⟨_, rfl⟩
                rw [← hen] at CN e0 HNO HYES
                rw [← hei] at e1 HNO HYES
                have HJ := Go.Lib.hid hjl
                have HB3 := Go.Lib.hid hb3
                clear hen hei hjl hfo hb3
                by_cases e1' : ei = od
                · have b1 : (ei == od) = true := by simp [e1']
                  cases hn : nearN h en with
                  | true =>
                    rw [hn] at CN
                    have K := Go.Lib.hid (HYES.out e1' hn)
                    clear e1' hn HNO HYES
                    go_upto_region 23 with (fail)
                    go_quiet ((go_at_call 11; exact Calls.quiet_of_same ((CN.out _).mono fun _ _ ⟨h, hw⟩ => ⟨h, hw.symm⟩)))
                    go_wp2_with fail
                    go_roundw
                    case rel => exact ⟨j + 1, m + 1, j, by have := HJ.out; omega, by omega, rfl, by go_num, by go_num, K, below_drewN HB3.out _⟩
                    case measure => simp only [intOf]; have := HJ.out; omega
                  | false =>
                    rw [hn] at CN
                    have K := Go.Lib.hid (HNO.out (fun _ => hn))
                    clear e1' hn HNO HYES
                    go_upto_region 23 with (fail)
                    go_quiet ((go_at_call 11; exact Calls.quiet_of_same ((CN.out _).mono fun _ _ ⟨h, hw⟩ => ⟨h, hw.symm⟩)))
                    go_wp2_with fail
                    go_roundw
                    case rel => exact ⟨j + 1, m, ai, by have := HJ.out; omega, by omega, rfl, rfl, by go_num, K, below_drewN HB3.out _⟩
                    case measure => simp only [intOf]; have := HJ.out; omega
                · have b1 : (ei == od) = false := by simp [e1']
                  have K := Go.Lib.hid (HNO.out (fun h => absurd h e1'))
                  clear e1' HNO HYES
                  go_upto_region 23 with (fail)
                  go_quiet (fail)
                  go_wp2_with fail
                  go_roundw
                  case rel => exact ⟨j + 1, m, ai, by have := HJ.out; omega, by omega, rfl, rfl, by go_num, K, below_drewN HB3.out _⟩
                  case measure => simp only [intOf]; have := HJ.out; omega
              · obtain rfl : j = es.length := by omega
                have HU := Go.Lib.hid (HU.out.below hb3)
                have HV := Go.Lib.hid (HV.out.below hb3)
                have HC := Go.Lib.hid (HC.out.below hb3)
                have HS := Go.Lib.hid (Nat.le_trans HS.out hb3.size)
                have HB := Go.Lib.hid (below_to HB.out (Nat.le_refl _) hb3)
                have HBX := Go.Lib.hid (block_kept HBX.out hb3)
                clear hb3 hjl hj
                obtain ⟨x0, x1, x2, x3⟩ := box4 HBX.out
                simp only [] at x0 x1 x2 x3
                by_cases hm1 : 1 < m
                · have hmI : (1 : Int) < (m : Int) := by omega
                  clear hfo
                  go_wp2_with fail
                  go_roundw
                  case rel => exact ⟨k + 1, _, _, T, es, rfl, rfl, by have := HK.out; omega, by have := HK.out; omega, by go_num, HU.out, HV.out, HC.out, Go.Lib.hid ⟨HF.out, HES.out⟩, HS.out, HB.out⟩
                  case measure => simp only [intOf]; have := HK.out; omega
                · have hmI : ¬ (1 : Int) < (m : Int) := by omega
                  by_cases hneg : ai < 0
                  · have hai : ai = -1 := by
                      rcases hfo.out with ⟨h1, -⟩ | ⟨r, hr, h1, -⟩
                      · exact h1
                      · omega
                    subst hai
                    have HNN := Go.Lib.hid hfo.out.none
                    clear hfo hneg
                    go_wp2_with fail
                    refine (cset_no HC.out HF.out (x := h) (old := od) (i := id) HX.out HWI.out (.inr HNN.out)).mono ?_
                    rintro e w7 ⟨rfl, hb6⟩
                    have HU := Go.Lib.hid (HU.out.below hb6)
                    have HV := Go.Lib.hid (HV.out.below hb6)
                    have HC := Go.Lib.hid (HC.out.below hb6)
                    have HS := Go.Lib.hid (Nat.le_trans HS.out hb6.size)
                    have HB := Go.Lib.hid (below_to HB.out (Nat.le_refl _) hb6)
                    have HBX := Go.Lib.hid (block_kept HBX.out hb6)
                    clear hb6 x0 x1 x2 x3
                    go_wp2_with fail
                    as_aux_lemma =>
                      obtain ⟨x0, x1, x2, x3⟩ := box4 HBX.out
                      have CFD := Go.Lib.hid (fun W hW => cfind_c (w := W) (HC.out.below hW) HF.out (x := h) HX.out (by have := HES.out.2; omega))
                      have CFL := Go.Lib.hid (fun W hW => find_c _ _ h W ((HU.out.below hW).r) HES.out.1 HX.out (by have := HES.out.2; omega))
                      have CLI := Go.Lib.hid (fun W hW => lies_c d _ _ _ W (HC.out.below hW) ((HU.out.below hW).r) HF.out HES.out.1 (by have := HES.out.2; omega))
                      obtain ⟨SF, hSF⟩ : ∃ SF, SF = srtF es h := ⟨_, rfl⟩
                      have HSF := Go.Lib.hid (fun (F : List Int) (h1 : F.Pairwise (· ≤ ·)) (h2 : F.Perm (findL es h)) => (srtF_of h1 h2).trans hSF.symm)
                      have CEQ := Go.Lib.hid (fun a b W (ha : KI.R W a SF) (hb : KI.R W b SF) => by have := eqI_c a b SF SF W ha hb; rw [decide_eq_true rfl] at this; exact this)
                      clear hSF
                      go_upto_region 32 with (fail)
                      refine wp_region_each (by kernel_rfl) (W32 (.slice au es.length cu) d p h SF) (W32_below (.slice au es.length cu) d p h SF) (by decide +kernel) (by decide +kernel) (by rfl) [135, 136, 137, 138, 139, 140, 141, 142, 143, 144, 145, 146, 147, 148, 149, 150] (by rfl) ?_ ?_
                      · intro i o ho a w6 hb6 hlen hg
                        have x0 := cell_on x0 hb6
                        have x1 := cell_on x1 hb6
                        have x2 := cell_on x2 hb6
                        have x3 := cell_on x3 hb6
                        match i, ho with
                        | 0, ho =>
                          obtain rfl := Option.some.inj ho
                          have h4 := given_old hg 4 (by decide +kernel)
                          clear hg
                          exact st_yield ho (wanted_none rfl) (.pointer (some ⟨d, 0, none⟩)) w6 (by simp [execOp, Act.eval, h4, go_sem]) ⟨_, rfl, Below.refl _ _, by rintro t' ⟨⟩; rfl⟩
                        | 1, ho =>
                          obtain rfl := Option.some.inj ho
                          have h8 := given_old hg 8 (by decide +kernel)
                          clear hg
                          exact st_yield ho (wanted_none rfl) (.pointer (some ⟨p, 3, none⟩)) w6 (by simp [execOp, Act.eval, h8, go_sem]) ⟨_, rfl, Below.refl _ _, by rintro t' ⟨⟩; rfl⟩
                        | 2, ho =>
                          obtain rfl := Option.some.inj ho
                          obtain ⟨_, h136, rfl⟩ := given_fed hg 136 (by decide +kernel)
                          clear hg
                          exact st_yield ho (wanted_none rfl) (.int .u64 (h : Int)) w6 (by simp [execOp, Act.eval, h136, go_sem, x3]) ⟨_, rfl, Below.refl _ _, by rintro t' ⟨⟩; rfl⟩
                        | 3, ho =>
                          obtain rfl := Option.some.inj ho
                          obtain ⟨_, h135, rfl⟩ := given_fed hg 135 (by decide +kernel)
                          obtain ⟨_, h137, rfl⟩ := given_fed hg 137 (by decide +kernel)
                          clear hg
                          exact st_enter (w1 := w6) ho (wanted_none rfl) 14 #[.pointer (some ⟨d, 0, none⟩), .int .u64 (h : Int)] (by simp [execOp, Act.eval, h135, h137, resolve, go_sem]) ((CFD.out _ hb6).mono (by rintro e w7 ⟨v, F, rfl, ho7, hs7, hp7, hb7⟩; obtain rfl := HSF.out F hs7 hp7; exact ⟨v, rfl, _, rfl, hb7, by rintro t' ⟨⟩; exact ho7.r⟩))
                        | 4, ho =>
                          obtain rfl := Option.some.inj ho
                          have h5 := given_old hg 5 (by decide +kernel)
                          clear hg
                          exact st_yield ho (wanted_none rfl) ((.slice au es.length cu)) w6 (by simp [execOp, Act.eval, h5, go_sem]) ⟨_, rfl, Below.refl _ _, by rintro t' ⟨⟩; rfl⟩
                        | 5, ho =>
                          obtain rfl := Option.some.inj ho
                          have h8 := given_old hg 8 (by decide +kernel)
                          clear hg
                          exact st_yield ho (wanted_none rfl) (.pointer (some ⟨p, 3, none⟩)) w6 (by simp [execOp, Act.eval, h8, go_sem]) ⟨_, rfl, Below.refl _ _, by rintro t' ⟨⟩; rfl⟩
                        | 6, ho =>
                          obtain rfl := Option.some.inj ho
                          obtain ⟨_, h140, rfl⟩ := given_fed hg 140 (by decide +kernel)
                          clear hg
                          exact st_yield ho (wanted_none rfl) (.int .u64 (h : Int)) w6 (by simp [execOp, Act.eval, h140, go_sem, x3]) ⟨_, rfl, Below.refl _ _, by rintro t' ⟨⟩; rfl⟩
                        | 7, ho =>
                          obtain rfl := Option.some.inj ho
                          obtain ⟨v139', h139, p139⟩ := given_fed hg 139 (by decide +kernel)
                          have p139 : v139' = (.slice au es.length cu) := p139
                          rw [p139] at h139
                          obtain ⟨_, h141, rfl⟩ := given_fed hg 141 (by decide +kernel)
                          clear hg
                          exact st_enter (w1 := w6) ho (wanted_none rfl) 15 #[(.slice au es.length cu), .int .u64 (h : Int)] (by simp [execOp, Act.eval, h139, h141, resolve, go_sem]) ((CFL.out _ hb6).mono (by rintro e w7 ⟨v, F, rfl, ho7, hs7, hp7, hb7⟩; obtain rfl := HSF.out F hs7 hp7; exact ⟨v, rfl, _, rfl, hb7, by rintro t' ⟨⟩; exact ho7⟩))
                        | 8, ho =>
                          obtain rfl := Option.some.inj ho
                          obtain ⟨v138, h138, p138⟩ := given_fed hg 138 (by decide +kernel)
                          obtain ⟨v142, h142, p142⟩ := given_fed hg 142 (by decide +kernel)
                          clear hg
                          exact st_enter (w1 := w6) ho (wanted_none rfl) 13 #[v138, v142] (by simp [execOp, Act.eval, h138, h142, resolve, go_sem]) ((CEQ.out _ _ _ p138 p142).mono (by rintro e w7 ⟨rfl, hb7⟩; exact ⟨_, rfl, _, rfl, hb7, by rintro t' ⟨⟩; rfl⟩))
                        | 9, ho =>
                          obtain rfl := Option.some.inj ho
                          obtain ⟨_, h143, rfl⟩ := given_fed hg 143 (by decide +kernel)
                          clear hg
                          exact st_yield ho (wanted_none rfl) (.bool false) w6 (by simp [execOp, Act.eval, h143, go_sem]) ⟨_, rfl, Below.refl _ _, by rintro t' ⟨⟩; rfl⟩
                        | 10, ho =>
                          obtain rfl := Option.some.inj ho
                          obtain ⟨_, h144, rfl⟩ := given_fed hg 144 (by decide +kernel)
                          clear hg
                          exact st_yield ho (wanted_none rfl) (.bool false) w6 (by simp [execOp, Act.eval, h144, go_sem]) ⟨_, rfl, Below.refl _ _, by rintro t' ⟨⟩; rfl⟩
                        | 11, ho =>
                          obtain rfl := Option.some.inj ho
                          have h4 := given_old hg 4 (by decide +kernel)
                          obtain ⟨_, h145, rfl⟩ := given_fed hg 145 (by decide +kernel)
                          clear hg
                          exact st_yield ho (wanted_some rfl rfl h145 rfl) (.pointer (some ⟨d, 0, none⟩)) w6 (by simp [execOp, Act.eval, h4, go_sem]) ⟨_, rfl, Below.refl _ _, by rintro t' ⟨⟩; rfl⟩
                        | 12, ho =>
                          obtain rfl := Option.some.inj ho
                          have h5 := given_old hg 5 (by decide +kernel)
                          obtain ⟨_, h145, rfl⟩ := given_fed hg 145 (by decide +kernel)
                          clear hg
                          exact st_yield ho (wanted_some rfl rfl h145 rfl) ((.slice au es.length cu)) w6 (by simp [execOp, Act.eval, h5, go_sem]) ⟨_, rfl, Below.refl _ _, by rintro t' ⟨⟩; rfl⟩
                        | 13, ho =>
                          obtain rfl := Option.some.inj ho
                          obtain ⟨_, h146, rfl⟩ := given_fed hg 146 (by decide +kernel)
                          obtain ⟨v147', h147, p147⟩ := given_fed hg 147 (by decide +kernel)
                          have p147 : v147' = (.slice au es.length cu) := p147
                          rw [p147] at h147
                          obtain ⟨_, h145, rfl⟩ := given_fed hg 145 (by decide +kernel)
                          clear hg
                          exact st_enter (w1 := w6) ho (wanted_some rfl rfl h145 rfl) 16 #[.pointer (some ⟨d, 0, none⟩), (.slice au es.length cu)] (by simp [execOp, Act.eval, h146, h147, resolve, go_sem]) ((CLI.out _ hb6).mono (by rintro e w7 ⟨rfl, hb7⟩; exact ⟨_, rfl, _, rfl, hb7, by rintro t' ⟨⟩; rfl⟩))
                        | 14, ho =>
                          obtain rfl := Option.some.inj ho
                          obtain ⟨_, h148, rfl⟩ := given_fed hg 148 (by decide +kernel)
                          obtain ⟨_, h145, rfl⟩ := given_fed hg 145 (by decide +kernel)
                          clear hg
                          exact st_yield ho (wanted_some rfl rfl h145 rfl) (.bool false) w6 (by simp [execOp, Act.eval, h148, go_sem]) ⟨_, rfl, Below.refl _ _, by rintro t' ⟨⟩; rfl⟩
                        | 15, ho =>
                          obtain rfl := Option.some.inj ho
                          obtain ⟨_, h145, rfl⟩ := given_fed hg 145 (by decide +kernel)
                          obtain ⟨_, h149, rfl⟩ := given_fed hg 149 (by decide +kernel)
                          clear hg
                          exact st_yield ho (wanted_none rfl) (.bool false) w6 (by simp [execOp, Act.eval, h145, h149, go_sem]) ⟨_, rfl, Below.refl _ _, by rintro t' ⟨⟩; rfl⟩
                        | n + 16, ho => simp at ho
                      · intro f w9 hb9 hv
                        have h150 := hv 150 (by decide)
                        simp only [W32] at h150
                        have HC := Go.Lib.hid (HC.out.below hb9)
                        have HU := Go.Lib.hid (HU.out.below hb9)
                        have HV := Go.Lib.hid (HV.out.below hb9)
                        have HS := Go.Lib.hid (Nat.le_trans HS.out hb9.size)
                        have HB := Go.Lib.hid (below_to HB.out (Nat.le_refl _) hb9)
                        clear hv hb9 x0 x1 x2 x3 CFD CFL CLI CEQ
                        unfold putAll
                        simp only [List.foldl]
                        simp only [h150]
                        go_simp
                        go_wp2_with fail
                        go_roundw
                        case rel => exact ⟨k + 1, _, _, T, es, rfl, rfl, by have := HK.out; omega, by have := HK.out; omega, by go_num, HU.out, HV.out, HC.out, Go.Lib.hid ⟨HF.out, HES.out⟩, HS.out, HB.out⟩
                        case measure => simp only [intOf]; have := HK.out; omega
                  · obtain ⟨r, hr, har, hro, hrn⟩ : ∃ r, ∃ hr : r < es.length, ai = (r : Int) ∧ es[r].2 = od ∧ nearN h es[r].1 = true := by
                      rcases hfo.out with ⟨h1, -⟩ | h
                      · omega
                      · exact h
                    subst har
                    have HRR := Go.Lib.hid hr
                    have HR2 := Go.Lib.hid (And.intro hro hrn)
                    have hr0 : (0 : Int) ≤ (r : Int) := by omega
                    have hrd : decide ((0 : Int) ≤ (r : Int)) = true := decide_eq_true hr0
                    clear hfo hneg hro hrn
                    by_cases hi0 : 0 ≤ id
                    · by_cases hi1 : id ≤ 1099511627776
                      · have HOKI := Go.Lib.hid (show idOk id = true by unfold idOk; exact decide_eq_true ⟨hi0, hi1⟩)
                        have hd0 : decide (0 ≤ id) = true := decide_eq_true hi0
                        have hd1 : decide (id ≤ 1099511627776) = true := decide_eq_true hi1
                        go_wp2_with fail
                        refine (cset_yes HC.out HF.out (x := h) (old := od) (i := id) HX.out HOKI.out HRR.out HR2.out.1 HR2.out.2).mono ?_
                        rintro e w7 ⟨rfl, ⟨T1, hck, hft⟩, ho⟩
                        have HU := Go.Lib.hid (HU.out.off ho (Nat.lt_succ_self _))
                        have HV := Go.Lib.hid (HV.out.off ho (Nat.lt_succ_self _))
                        have HS := Go.Lib.hid (Nat.le_trans HS.out ho.size)
                        have HB := Go.Lib.hid (HB.out.trans (ho.below HD.out HB.out.size))
                        have HBX := Go.Lib.hid (show w7.heap[p]? = some (boxO ⟨kd, id, od, h⟩) from (ho.block p (block_lt HBX.out) (fun e => by
                          obtain ⟨cs, fr, hcc⟩ := HC.out.row
                          have hb := HBX.out
                          rw [e, hcc] at hb
                          unfold boxO at hb
                          simp only [Option.some.injEq, Obj.cells.injEq] at hb
                          exact absurd hb.2.1 (by decide))).trans HBX.out)
                        have HC := Go.Lib.hid hck
                        have HF := Go.Lib.hid hft
                        clear hck hft ho x0 x1 x2 x3
                        obtain ⟨x0, x1, x2, x3⟩ := box4 HBX.out
                        simp only [] at x0 x1 x2 x3
                        have hrr := HRR.out
                        obtain ⟨g, cg, hgf, hgB, hgs, hgc, hgm⟩ := HU.out.form (by intro e; rw [e] at hrr; simp at hrr)
                        simp only [Value.slice.injEq] at hgf
                        obtain ⟨rfl, -, rfl⟩ := hgf
                        obtain ⟨hst, hgr⟩ := HU.out.storeCell KE_ok r hrr 1 (by decide) (.int .i64 id) (es[r].1, id) rfl
                        have cr : w7.cell? ⟨g, r * 2 + 1, none⟩ = some (.int .i64 es[r].2) := HU.out.cell KE_ok r hrr 1 _ rfl
                        have fr : w7.frozen? ⟨g, r * 2 + 1, none⟩ = false := HU.out.frozenAt _
                        have hixr : ∀ W : World, (Instr.indexAt 26 (.slice (some ⟨g, 0, none⟩) es.length cu) (.int .i64 (r : Int))).run Try.prog W = .ok (.pointer (some ⟨g, r * 2, none⟩)) W := fun W => by have := idxE' g 0 es.length cu r hrr W; rwa [Nat.zero_add] at this
                        have hst : KE.O (w7.setCell ⟨g, r * 2 + 1, none⟩ (.int .i64 id)) (d + 1) (.slice (some ⟨g, 0, none⟩) es.length cu) (es.set r (es[r].1, id)) := hst
                        have hgr : w7.grownBy (w7.setCell ⟨g, r * 2 + 1, none⟩ (.int .i64 id)) (some g) := hgr
                        have HV2 := Go.Lib.hid (show KU.O (w7.setCell ⟨g, r * 2 + 1, none⟩ (.int .i64 id)) (d + 1) vh ((es.set r (es[r].1, id)).map Prod.fst) by
                          rw [es_set_fst hrr]
                          exact HV.out.kept hgr (HU.out.ne HV.out ke_ku))
                        have HC2 := Go.Lib.hid (HC.out.same (hgr.block d HC.out.lt (by simp only [ne_eq, Option.some.injEq]; omega)))
                        have HBX2 := Go.Lib.hid (HU.out.blkKept hgr HBX.out ke_op)
                        have HB2 := Go.Lib.hid (HB.out.grown hgr HB.out.size (fun q hq => by cases hq; exact Nat.le_trans (Nat.le_succ_of_le HD.out) hgB))
                        have HS2 := Go.Lib.hid (Nat.le_trans HS.out hgr.size)
                        have HES2 := Go.Lib.hid (show (∀ e ∈ es.set r (es[r].1, id), e.1 < 18446744073709551616) ∧ (es.set r (es[r].1, id)).length ≤ k + 1 from ⟨fun e he => by
                          rcases List.mem_or_eq_of_mem_set he with he | he
                          · exact HES.out.1 e he
                          · rw [he]; exact HES.out.1 es[r] (List.getElem_mem hrr), by rw [List.length_set]; exact HES.out.2⟩)
                        have HU2 := Go.Lib.hid hst
                        generalize es.set r (es[r].1, id) = es2 at *
                        generalize es[r].2 = oldv at *
                        clear HU HV HC HBX HB HS HES hst hgr hrr hgB hgs hgc hgm
                        have HU := HU2; have HV := HV2; have HC := HC2; have HB := HB2; have HS := HS2; have HES := HES2
                        have HBX : Go.RowKit.Hid ((w7.setCell ⟨g, r * 2 + 1, none⟩ (.int .i64 id)).heap[p]? = some (boxO ⟨kd, id, od, h⟩)) := HBX2
                        clear HU2 HV2 HC2 HB2 HS2 HES2 HBX2
                        go_wp2_with fail
                        clear x0 x1 x2 x3 cr fr hixr
                        generalize w7.setCell ⟨g, r * 2 + 1, none⟩ (.int .i64 id) = wz at *
                        as_aux_lemma =>
                          obtain ⟨x0, x1, x2, x3⟩ := box4 HBX.out
                          have CFD := Go.Lib.hid (fun W hW => cfind_c (w := W) (HC.out.below hW) HF.out (x := h) HX.out (by have := HES.out.2; omega))
                          have CFL := Go.Lib.hid (fun W hW => find_c _ _ h W ((HU.out.below hW).r) HES.out.1 HX.out (by have := HES.out.2; omega))
                          have CLI := Go.Lib.hid (fun W hW => lies_c d _ _ _ W (HC.out.below hW) ((HU.out.below hW).r) HF.out HES.out.1 (by have := HES.out.2; omega))
                          obtain ⟨SF, hSF⟩ : ∃ SF, SF = srtF es2 h := ⟨_, rfl⟩
                          have HSF := Go.Lib.hid (fun (F : List Int) (h1 : F.Pairwise (· ≤ ·)) (h2 : F.Perm (findL es2 h)) => (srtF_of h1 h2).trans hSF.symm)
                          have CEQ := Go.Lib.hid (fun a b W (ha : KI.R W a SF) (hb : KI.R W b SF) => by have := eqI_c a b SF SF W ha hb; rw [decide_eq_true rfl] at this; exact this)
                          clear hSF
                          go_upto_region 32 with (fail)
                          refine wp_region_each (by kernel_rfl) (W32 (.slice (some ⟨g, 0, none⟩) es.length cu) d p h SF) (W32_below (.slice (some ⟨g, 0, none⟩) es.length cu) d p h SF) (by decide +kernel) (by decide +kernel) (by rfl) [135, 136, 137, 138, 139, 140, 141, 142, 143, 144, 145, 146, 147, 148, 149, 150] (by rfl) ?_ ?_
                          · intro i o ho a w6 hb6 hlen hg
                            have x0 := cell_on x0 hb6
                            have x1 := cell_on x1 hb6
                            have x2 := cell_on x2 hb6
                            have x3 := cell_on x3 hb6
                            match i, ho with
                            | 0, ho =>
                              obtain rfl := Option.some.inj ho
                              have h4 := given_old hg 4 (by decide +kernel)
                              clear hg
                              exact st_yield ho (wanted_none rfl) (.pointer (some ⟨d, 0, none⟩)) w6 (by simp [execOp, Act.eval, h4, go_sem]) ⟨_, rfl, Below.refl _ _, by rintro t' ⟨⟩; rfl⟩
                            | 1, ho =>
                              obtain rfl := Option.some.inj ho
                              have h8 := given_old hg 8 (by decide +kernel)
                              clear hg
                              exact st_yield ho (wanted_none rfl) (.pointer (some ⟨p, 3, none⟩)) w6 (by simp [execOp, Act.eval, h8, go_sem]) ⟨_, rfl, Below.refl _ _, by rintro t' ⟨⟩; rfl⟩
                            | 2, ho =>
                              obtain rfl := Option.some.inj ho
                              obtain ⟨_, h136, rfl⟩ := given_fed hg 136 (by decide +kernel)
                              clear hg
                              exact st_yield ho (wanted_none rfl) (.int .u64 (h : Int)) w6 (by simp [execOp, Act.eval, h136, go_sem, x3]) ⟨_, rfl, Below.refl _ _, by rintro t' ⟨⟩; rfl⟩
                            | 3, ho =>
                              obtain rfl := Option.some.inj ho
                              obtain ⟨_, h135, rfl⟩ := given_fed hg 135 (by decide +kernel)
                              obtain ⟨_, h137, rfl⟩ := given_fed hg 137 (by decide +kernel)
                              clear hg
                              exact st_enter (w1 := w6) ho (wanted_none rfl) 14 #[.pointer (some ⟨d, 0, none⟩), .int .u64 (h : Int)] (by simp [execOp, Act.eval, h135, h137, resolve, go_sem]) ((CFD.out _ hb6).mono (by rintro e w7 ⟨v, F, rfl, ho7, hs7, hp7, hb7⟩; obtain rfl := HSF.out F hs7 hp7; exact ⟨v, rfl, _, rfl, hb7, by rintro t' ⟨⟩; exact ho7.r⟩))
                            | 4, ho =>
                              obtain rfl := Option.some.inj ho
                              have h5 := given_old hg 5 (by decide +kernel)
                              clear hg
                              exact st_yield ho (wanted_none rfl) ((.slice (some ⟨g, 0, none⟩) es.length cu)) w6 (by simp [execOp, Act.eval, h5, go_sem]) ⟨_, rfl, Below.refl _ _, by rintro t' ⟨⟩; rfl⟩
                            | 5, ho =>
                              obtain rfl := Option.some.inj ho
                              have h8 := given_old hg 8 (by decide +kernel)
                              clear hg
                              exact st_yield ho (wanted_none rfl) (.pointer (some ⟨p, 3, none⟩)) w6 (by simp [execOp, Act.eval, h8, go_sem]) ⟨_, rfl, Below.refl _ _, by rintro t' ⟨⟩; rfl⟩
                            | 6, ho =>
                              obtain rfl := Option.some.inj ho
                              obtain ⟨_, h140, rfl⟩ := given_fed hg 140 (by decide +kernel)
                              clear hg
                              exact st_yield ho (wanted_none rfl) (.int .u64 (h : Int)) w6 (by simp [execOp, Act.eval, h140, go_sem, x3]) ⟨_, rfl, Below.refl _ _, by rintro t' ⟨⟩; rfl⟩
                            | 7, ho =>
                              obtain rfl := Option.some.inj ho
                              obtain ⟨v139', h139, p139⟩ := given_fed hg 139 (by decide +kernel)
                              have p139 : v139' = (.slice (some ⟨g, 0, none⟩) es.length cu) := p139
                              rw [p139] at h139
                              obtain ⟨_, h141, rfl⟩ := given_fed hg 141 (by decide +kernel)
                              clear hg
                              exact st_enter (w1 := w6) ho (wanted_none rfl) 15 #[(.slice (some ⟨g, 0, none⟩) es.length cu), .int .u64 (h : Int)] (by simp [execOp, Act.eval, h139, h141, resolve, go_sem]) ((CFL.out _ hb6).mono (by rintro e w7 ⟨v, F, rfl, ho7, hs7, hp7, hb7⟩; obtain rfl := HSF.out F hs7 hp7; exact ⟨v, rfl, _, rfl, hb7, by rintro t' ⟨⟩; exact ho7⟩))
                            | 8, ho =>
                              obtain rfl := Option.some.inj ho
                              obtain ⟨v138, h138, p138⟩ := given_fed hg 138 (by decide +kernel)
                              obtain ⟨v142, h142, p142⟩ := given_fed hg 142 (by decide +kernel)
                              clear hg
                              exact st_enter (w1 := w6) ho (wanted_none rfl) 13 #[v138, v142] (by simp [execOp, Act.eval, h138, h142, resolve, go_sem]) ((CEQ.out _ _ _ p138 p142).mono (by rintro e w7 ⟨rfl, hb7⟩; exact ⟨_, rfl, _, rfl, hb7, by rintro t' ⟨⟩; rfl⟩))
                            | 9, ho =>
                              obtain rfl := Option.some.inj ho
                              obtain ⟨_, h143, rfl⟩ := given_fed hg 143 (by decide +kernel)
                              clear hg
                              exact st_yield ho (wanted_none rfl) (.bool false) w6 (by simp [execOp, Act.eval, h143, go_sem]) ⟨_, rfl, Below.refl _ _, by rintro t' ⟨⟩; rfl⟩
                            | 10, ho =>
                              obtain rfl := Option.some.inj ho
                              obtain ⟨_, h144, rfl⟩ := given_fed hg 144 (by decide +kernel)
                              clear hg
                              exact st_yield ho (wanted_none rfl) (.bool false) w6 (by simp [execOp, Act.eval, h144, go_sem]) ⟨_, rfl, Below.refl _ _, by rintro t' ⟨⟩; rfl⟩
                            | 11, ho =>
                              obtain rfl := Option.some.inj ho
                              have h4 := given_old hg 4 (by decide +kernel)
                              obtain ⟨_, h145, rfl⟩ := given_fed hg 145 (by decide +kernel)
                              clear hg
                              exact st_yield ho (wanted_some rfl rfl h145 rfl) (.pointer (some ⟨d, 0, none⟩)) w6 (by simp [execOp, Act.eval, h4, go_sem]) ⟨_, rfl, Below.refl _ _, by rintro t' ⟨⟩; rfl⟩
                            | 12, ho =>
                              obtain rfl := Option.some.inj ho
                              have h5 := given_old hg 5 (by decide +kernel)
                              obtain ⟨_, h145, rfl⟩ := given_fed hg 145 (by decide +kernel)
                              clear hg
                              exact st_yield ho (wanted_some rfl rfl h145 rfl) ((.slice (some ⟨g, 0, none⟩) es.length cu)) w6 (by simp [execOp, Act.eval, h5, go_sem]) ⟨_, rfl, Below.refl _ _, by rintro t' ⟨⟩; rfl⟩
                            | 13, ho =>
                              obtain rfl := Option.some.inj ho
                              obtain ⟨_, h146, rfl⟩ := given_fed hg 146 (by decide +kernel)
                              obtain ⟨v147', h147, p147⟩ := given_fed hg 147 (by decide +kernel)
                              have p147 : v147' = (.slice (some ⟨g, 0, none⟩) es.length cu) := p147
                              rw [p147] at h147
                              obtain ⟨_, h145, rfl⟩ := given_fed hg 145 (by decide +kernel)
                              clear hg
                              exact st_enter (w1 := w6) ho (wanted_some rfl rfl h145 rfl) 16 #[.pointer (some ⟨d, 0, none⟩), (.slice (some ⟨g, 0, none⟩) es.length cu)] (by simp [execOp, Act.eval, h146, h147, resolve, go_sem]) ((CLI.out _ hb6).mono (by rintro e w7 ⟨rfl, hb7⟩; exact ⟨_, rfl, _, rfl, hb7, by rintro t' ⟨⟩; rfl⟩))
                            | 14, ho =>
                              obtain rfl := Option.some.inj ho
                              obtain ⟨_, h148, rfl⟩ := given_fed hg 148 (by decide +kernel)
                              obtain ⟨_, h145, rfl⟩ := given_fed hg 145 (by decide +kernel)
                              clear hg
                              exact st_yield ho (wanted_some rfl rfl h145 rfl) (.bool false) w6 (by simp [execOp, Act.eval, h148, go_sem]) ⟨_, rfl, Below.refl _ _, by rintro t' ⟨⟩; rfl⟩
                            | 15, ho =>
                              obtain rfl := Option.some.inj ho
                              obtain ⟨_, h145, rfl⟩ := given_fed hg 145 (by decide +kernel)
                              obtain ⟨_, h149, rfl⟩ := given_fed hg 149 (by decide +kernel)
                              clear hg
                              exact st_yield ho (wanted_none rfl) (.bool false) w6 (by simp [execOp, Act.eval, h145, h149, go_sem]) ⟨_, rfl, Below.refl _ _, by rintro t' ⟨⟩; rfl⟩
                            | n + 16, ho => simp at ho
                          · intro f w9 hb9 hv
                            have h150 := hv 150 (by decide)
                            simp only [W32] at h150
                            have HC := Go.Lib.hid (HC.out.below hb9)
                            have HU := Go.Lib.hid (HU.out.below hb9)
                            have HV := Go.Lib.hid (HV.out.below hb9)
                            have HS := Go.Lib.hid (Nat.le_trans HS.out hb9.size)
                            have HB := Go.Lib.hid (below_to HB.out (Nat.le_refl _) hb9)
                            clear hv hb9 x0 x1 x2 x3 CFD CFL CLI CEQ
                            unfold putAll
                            simp only [List.foldl]
                            simp only [h150]
                            go_simp
                            go_wp2_with fail
                            go_roundw
                            case rel => exact ⟨k + 1, _, _, T1, es2, rfl, rfl, by have := HK.out; omega, by have := HK.out; omega, by go_num, HU.out, HV.out, HC.out, Go.Lib.hid ⟨HF.out, HES.out⟩, HS.out, HB.out⟩
                            case measure => simp only [intOf]; have := HK.out; omega
                      · have HOKI := Go.Lib.hid (show idOk id = false by unfold idOk; exact decide_eq_false (fun h => hi1 h.2))
                        have hd0 : decide (0 ≤ id) = true := decide_eq_true hi0
                        have hd1 : decide (id ≤ 1099511627776) = false := decide_eq_false hi1
                        go_wp2_with fail
                        refine (cset_no HC.out HF.out (x := h) (old := od) (i := id) HX.out HWI.out (.inl HOKI.out)).mono ?_
                        rintro e w7 ⟨rfl, hb6⟩
                        have HU := Go.Lib.hid (HU.out.below hb6)
                        have HV := Go.Lib.hid (HV.out.below hb6)
                        have HC := Go.Lib.hid (HC.out.below hb6)
                        have HS := Go.Lib.hid (Nat.le_trans HS.out hb6.size)
                        have HB := Go.Lib.hid (below_to HB.out (Nat.le_refl _) hb6)
                        have HBX := Go.Lib.hid (block_kept HBX.out hb6)
                        clear hb6 x0 x1 x2 x3
                        go_wp2_with fail
                        as_aux_lemma =>
                          obtain ⟨x0, x1, x2, x3⟩ := box4 HBX.out
                          have CFD := Go.Lib.hid (fun W hW => cfind_c (w := W) (HC.out.below hW) HF.out (x := h) HX.out (by have := HES.out.2; omega))
                          have CFL := Go.Lib.hid (fun W hW => find_c _ _ h W ((HU.out.below hW).r) HES.out.1 HX.out (by have := HES.out.2; omega))
                          have CLI := Go.Lib.hid (fun W hW => lies_c d _ _ _ W (HC.out.below hW) ((HU.out.below hW).r) HF.out HES.out.1 (by have := HES.out.2; omega))
                          obtain ⟨SF, hSF⟩ : ∃ SF, SF = srtF es h := ⟨_, rfl⟩
                          have HSF := Go.Lib.hid (fun (F : List Int) (h1 : F.Pairwise (· ≤ ·)) (h2 : F.Perm (findL es h)) => (srtF_of h1 h2).trans hSF.symm)
                          have CEQ := Go.Lib.hid (fun a b W (ha : KI.R W a SF) (hb : KI.R W b SF) => by have := eqI_c a b SF SF W ha hb; rw [decide_eq_true rfl] at this; exact this)
                          clear hSF
                          go_upto_region 32 with (fail)
                          refine wp_region_each (by kernel_rfl) (W32 (.slice au es.length cu) d p h SF) (W32_below (.slice au es.length cu) d p h SF) (by decide +kernel) (by decide +kernel) (by rfl) [135, 136, 137, 138, 139, 140, 141, 142, 143, 144, 145, 146, 147, 148, 149, 150] (by rfl) ?_ ?_
                          · intro i o ho a w6 hb6 hlen hg
                            have x0 := cell_on x0 hb6
                            have x1 := cell_on x1 hb6
                            have x2 := cell_on x2 hb6
                            have x3 := cell_on x3 hb6
                            match i, ho with
                            | 0, ho =>
                              obtain rfl := Option.some.inj ho
                              have h4 := given_old hg 4 (by decide +kernel)
                              clear hg
                              exact st_yield ho (wanted_none rfl) (.pointer (some ⟨d, 0, none⟩)) w6 (by simp [execOp, Act.eval, h4, go_sem]) ⟨_, rfl, Below.refl _ _, by rintro t' ⟨⟩; rfl⟩
                            | 1, ho =>
                              obtain rfl := Option.some.inj ho
                              have h8 := given_old hg 8 (by decide +kernel)
                              clear hg
                              exact st_yield ho (wanted_none rfl) (.pointer (some ⟨p, 3, none⟩)) w6 (by simp [execOp, Act.eval, h8, go_sem]) ⟨_, rfl, Below.refl _ _, by rintro t' ⟨⟩; rfl⟩
                            | 2, ho =>
                              obtain rfl := Option.some.inj ho
                              obtain ⟨_, h136, rfl⟩ := given_fed hg 136 (by decide +kernel)
                              clear hg
                              exact st_yield ho (wanted_none rfl) (.int .u64 (h : Int)) w6 (by simp [execOp, Act.eval, h136, go_sem, x3]) ⟨_, rfl, Below.refl _ _, by rintro t' ⟨⟩; rfl⟩
                            | 3, ho =>
                              obtain rfl := Option.some.inj ho
                              obtain ⟨_, h135, rfl⟩ := given_fed hg 135 (by decide +kernel)
                              obtain ⟨_, h137, rfl⟩ := given_fed hg 137 (by decide +kernel)
                              clear hg
                              exact st_enter (w1 := w6) ho (wanted_none rfl) 14 #[.pointer (some ⟨d, 0, none⟩), .int .u64 (h : Int)] (by simp [execOp, Act.eval, h135, h137, resolve, go_sem]) ((CFD.out _ hb6).mono (by rintro e w7 ⟨v, F, rfl, ho7, hs7, hp7, hb7⟩; obtain rfl := HSF.out F hs7 hp7; exact ⟨v, rfl, _, rfl, hb7, by rintro t' ⟨⟩; exact ho7.r⟩))
                            | 4, ho =>
                              obtain rfl := Option.some.inj ho
                              have h5 := given_old hg 5 (by decide +kernel)
                              clear hg
                              exact st_yield ho (wanted_none rfl) ((.slice au es.length cu)) w6 (by simp [execOp, Act.eval, h5, go_sem]) ⟨_, rfl, Below.refl _ _, by rintro t' ⟨⟩; rfl⟩
                            | 5, ho =>
                              obtain rfl := Option.some.inj ho
                              have h8 := given_old hg 8 (by decide +kernel)
                              clear hg
                              exact st_yield ho (wanted_none rfl) (.pointer (some ⟨p, 3, none⟩)) w6 (by simp [execOp, Act.eval, h8, go_sem]) ⟨_, rfl, Below.refl _ _, by rintro t' ⟨⟩; rfl⟩
                            | 6, ho =>
                              obtain rfl := Option.some.inj ho
                              obtain ⟨_, h140, rfl⟩ := given_fed hg 140 (by decide +kernel)
                              clear hg
                              exact st_yield ho (wanted_none rfl) (.int .u64 (h : Int)) w6 (by simp [execOp, Act.eval, h140, go_sem, x3]) ⟨_, rfl, Below.refl _ _, by rintro t' ⟨⟩; rfl⟩
                            | 7, ho =>
                              obtain rfl := Option.some.inj ho
                              obtain ⟨v139', h139, p139⟩ := given_fed hg 139 (by decide +kernel)
                              have p139 : v139' = (.slice au es.length cu) := p139
                              rw [p139] at h139
                              obtain ⟨_, h141, rfl⟩ := given_fed hg 141 (by decide +kernel)
                              clear hg
                              exact st_enter (w1 := w6) ho (wanted_none rfl) 15 #[(.slice au es.length cu), .int .u64 (h : Int)] (by simp [execOp, Act.eval, h139, h141, resolve, go_sem]) ((CFL.out _ hb6).mono (by rintro e w7 ⟨v, F, rfl, ho7, hs7, hp7, hb7⟩; obtain rfl := HSF.out F hs7 hp7; exact ⟨v, rfl, _, rfl, hb7, by rintro t' ⟨⟩; exact ho7⟩))
                            | 8, ho =>
                              obtain rfl := Option.some.inj ho
                              obtain ⟨v138, h138, p138⟩ := given_fed hg 138 (by decide +kernel)
                              obtain ⟨v142, h142, p142⟩ := given_fed hg 142 (by decide +kernel)
                              clear hg
                              exact st_enter (w1 := w6) ho (wanted_none rfl) 13 #[v138, v142] (by simp [execOp, Act.eval, h138, h142, resolve, go_sem]) ((CEQ.out _ _ _ p138 p142).mono (by rintro e w7 ⟨rfl, hb7⟩; exact ⟨_, rfl, _, rfl, hb7, by rintro t' ⟨⟩; rfl⟩))
                            | 9, ho =>
                              obtain rfl := Option.some.inj ho
                              obtain ⟨_, h143, rfl⟩ := given_fed hg 143 (by decide +kernel)
                              clear hg
                              exact st_yield ho (wanted_none rfl) (.bool false) w6 (by simp [execOp, Act.eval, h143, go_sem]) ⟨_, rfl, Below.refl _ _, by rintro t' ⟨⟩; rfl⟩
                            | 10, ho =>
                              obtain rfl := Option.some.inj ho
                              obtain ⟨_, h144, rfl⟩ := given_fed hg 144 (by decide +kernel)
                              clear hg
                              exact st_yield ho (wanted_none rfl) (.bool false) w6 (by simp [execOp, Act.eval, h144, go_sem]) ⟨_, rfl, Below.refl _ _, by rintro t' ⟨⟩; rfl⟩
                            | 11, ho =>
                              obtain rfl := Option.some.inj ho
                              have h4 := given_old hg 4 (by decide +kernel)
                              obtain ⟨_, h145, rfl⟩ := given_fed hg 145 (by decide +kernel)
                              clear hg
                              exact st_yield ho (wanted_some rfl rfl h145 rfl) (.pointer (some ⟨d, 0, none⟩)) w6 (by simp [execOp, Act.eval, h4, go_sem]) ⟨_, rfl, Below.refl _ _, by rintro t' ⟨⟩; rfl⟩
                            | 12, ho =>
                              obtain rfl := Option.some.inj ho
                              have h5 := given_old hg 5 (by decide +kernel)
                              obtain ⟨_, h145, rfl⟩ := given_fed hg 145 (by decide +kernel)
                              clear hg
                              exact st_yield ho (wanted_some rfl rfl h145 rfl) ((.slice au es.length cu)) w6 (by simp [execOp, Act.eval, h5, go_sem]) ⟨_, rfl, Below.refl _ _, by rintro t' ⟨⟩; rfl⟩
                            | 13, ho =>
                              obtain rfl := Option.some.inj ho
                              obtain ⟨_, h146, rfl⟩ := given_fed hg 146 (by decide +kernel)
                              obtain ⟨v147', h147, p147⟩ := given_fed hg 147 (by decide +kernel)
                              have p147 : v147' = (.slice au es.length cu) := p147
                              rw [p147] at h147
                              obtain ⟨_, h145, rfl⟩ := given_fed hg 145 (by decide +kernel)
                              clear hg
                              exact st_enter (w1 := w6) ho (wanted_some rfl rfl h145 rfl) 16 #[.pointer (some ⟨d, 0, none⟩), (.slice au es.length cu)] (by simp [execOp, Act.eval, h146, h147, resolve, go_sem]) ((CLI.out _ hb6).mono (by rintro e w7 ⟨rfl, hb7⟩; exact ⟨_, rfl, _, rfl, hb7, by rintro t' ⟨⟩; rfl⟩))
                            | 14, ho =>
                              obtain rfl := Option.some.inj ho
                              obtain ⟨_, h148, rfl⟩ := given_fed hg 148 (by decide +kernel)
                              obtain ⟨_, h145, rfl⟩ := given_fed hg 145 (by decide +kernel)
                              clear hg
                              exact st_yield ho (wanted_some rfl rfl h145 rfl) (.bool false) w6 (by simp [execOp, Act.eval, h148, go_sem]) ⟨_, rfl, Below.refl _ _, by rintro t' ⟨⟩; rfl⟩
                            | 15, ho =>
                              obtain rfl := Option.some.inj ho
                              obtain ⟨_, h145, rfl⟩ := given_fed hg 145 (by decide +kernel)
                              obtain ⟨_, h149, rfl⟩ := given_fed hg 149 (by decide +kernel)
                              clear hg
                              exact st_yield ho (wanted_none rfl) (.bool false) w6 (by simp [execOp, Act.eval, h145, h149, go_sem]) ⟨_, rfl, Below.refl _ _, by rintro t' ⟨⟩; rfl⟩
                            | n + 16, ho => simp at ho
                          · intro f w9 hb9 hv
                            have h150 := hv 150 (by decide)
                            simp only [W32] at h150
                            have HC := Go.Lib.hid (HC.out.below hb9)
                            have HU := Go.Lib.hid (HU.out.below hb9)
                            have HV := Go.Lib.hid (HV.out.below hb9)
                            have HS := Go.Lib.hid (Nat.le_trans HS.out hb9.size)
                            have HB := Go.Lib.hid (below_to HB.out (Nat.le_refl _) hb9)
                            clear hv hb9 x0 x1 x2 x3 CFD CFL CLI CEQ
                            unfold putAll
                            simp only [List.foldl]
                            simp only [h150]
                            go_simp
                            go_wp2_with fail
                            go_roundw
                            case rel => exact ⟨k + 1, _, _, T, es, rfl, rfl, by have := HK.out; omega, by have := HK.out; omega, by go_num, HU.out, HV.out, HC.out, Go.Lib.hid ⟨HF.out, HES.out⟩, HS.out, HB.out⟩
                            case measure => simp only [intOf]; have := HK.out; omega
                    · have HOKI := Go.Lib.hid (show idOk id = false by unfold idOk; exact decide_eq_false (fun h => hi0 h.1))
                      have hd0 : decide (0 ≤ id) = false := decide_eq_false hi0
                      go_wp2_with fail
                      refine (cset_no HC.out HF.out (x := h) (old := od) (i := id) HX.out HWI.out (.inl HOKI.out)).mono ?_
                      rintro e w7 ⟨rfl, hb6⟩
                      have HU := Go.Lib.hid (HU.out.below hb6)
                      have HV := Go.Lib.hid (HV.out.below hb6)
                      have HC := Go.Lib.hid (HC.out.below hb6)
                      have HS := Go.Lib.hid (Nat.le_trans HS.out hb6.size)
                      have HB := Go.Lib.hid (below_to HB.out (Nat.le_refl _) hb6)
                      have HBX := Go.Lib.hid (block_kept HBX.out hb6)
                      clear hb6 x0 x1 x2 x3
                      go_wp2_with fail
                      as_aux_lemma =>
                        obtain ⟨x0, x1, x2, x3⟩ := box4 HBX.out
                        have CFD := Go.Lib.hid (fun W hW => cfind_c (w := W) (HC.out.below hW) HF.out (x := h) HX.out (by have := HES.out.2; omega))
                        have CFL := Go.Lib.hid (fun W hW => find_c _ _ h W ((HU.out.below hW).r) HES.out.1 HX.out (by have := HES.out.2; omega))
                        have CLI := Go.Lib.hid (fun W hW => lies_c d _ _ _ W (HC.out.below hW) ((HU.out.below hW).r) HF.out HES.out.1 (by have := HES.out.2; omega))
                        obtain ⟨SF, hSF⟩ : ∃ SF, SF = srtF es h := ⟨_, rfl⟩
                        have HSF := Go.Lib.hid (fun (F : List Int) (h1 : F.Pairwise (· ≤ ·)) (h2 : F.Perm (findL es h)) => (srtF_of h1 h2).trans hSF.symm)
                        have CEQ := Go.Lib.hid (fun a b W (ha : KI.R W a SF) (hb : KI.R W b SF) => by have := eqI_c a b SF SF W ha hb; rw [decide_eq_true rfl] at this; exact this)
                        clear hSF
                        go_upto_region 32 with (fail)
                        refine wp_region_each (by kernel_rfl) (W32 (.slice au es.length cu) d p h SF) (W32_below (.slice au es.length cu) d p h SF) (by decide +kernel) (by decide +kernel) (by rfl) [135, 136, 137, 138, 139, 140, 141, 142, 143, 144, 145, 146, 147, 148, 149, 150] (by rfl) ?_ ?_
                        · intro i o ho a w6 hb6 hlen hg
                          have x0 := cell_on x0 hb6
                          have x1 := cell_on x1 hb6
                          have x2 := cell_on x2 hb6
                          have x3 := cell_on x3 hb6
                          match i, ho with
                          | 0, ho =>
                            obtain rfl := Option.some.inj ho
                            have h4 := given_old hg 4 (by decide +kernel)
                            clear hg
                            exact st_yield ho (wanted_none rfl) (.pointer (some ⟨d, 0, none⟩)) w6 (by simp [execOp, Act.eval, h4, go_sem]) ⟨_, rfl, Below.refl _ _, by rintro t' ⟨⟩; rfl⟩
                          | 1, ho =>
                            obtain rfl := Option.some.inj ho
                            have h8 := given_old hg 8 (by decide +kernel)
                            clear hg
                            exact st_yield ho (wanted_none rfl) (.pointer (some ⟨p, 3, none⟩)) w6 (by simp [execOp, Act.eval, h8, go_sem]) ⟨_, rfl, Below.refl _ _, by rintro t' ⟨⟩; rfl⟩
                          | 2, ho =>
                            obtain rfl := Option.some.inj ho
                            obtain ⟨_, h136, rfl⟩ := given_fed hg 136 (by decide +kernel)
                            clear hg
                            exact st_yield ho (wanted_none rfl) (.int .u64 (h : Int)) w6 (by simp [execOp, Act.eval, h136, go_sem, x3]) ⟨_, rfl, Below.refl _ _, by rintro t' ⟨⟩; rfl⟩
                          | 3, ho =>
                            obtain rfl := Option.some.inj ho
                            obtain ⟨_, h135, rfl⟩ := given_fed hg 135 (by decide +kernel)
                            obtain ⟨_, h137, rfl⟩ := given_fed hg 137 (by decide +kernel)
                            clear hg
                            exact st_enter (w1 := w6) ho (wanted_none rfl) 14 #[.pointer (some ⟨d, 0, none⟩), .int .u64 (h : Int)] (by simp [execOp, Act.eval, h135, h137, resolve, go_sem]) ((CFD.out _ hb6).mono (by rintro e w7 ⟨v, F, rfl, ho7, hs7, hp7, hb7⟩; obtain rfl := HSF.out F hs7 hp7; exact ⟨v, rfl, _, rfl, hb7, by rintro t' ⟨⟩; exact ho7.r⟩))
                          | 4, ho =>
                            obtain rfl := Option.some.inj ho
                            have h5 := given_old hg 5 (by decide +kernel)
                            clear hg
                            exact st_yield ho (wanted_none rfl) ((.slice au es.length cu)) w6 (by simp [execOp, Act.eval, h5, go_sem]) ⟨_, rfl, Below.refl _ _, by rintro t' ⟨⟩; rfl⟩
                          | 5, ho =>
                            obtain rfl := Option.some.inj ho
                            have h8 := given_old hg 8 (by decide +kernel)
                            clear hg
                            exact st_yield ho (wanted_none rfl) (.pointer (some ⟨p, 3, none⟩)) w6 (by simp [execOp, Act.eval, h8, go_sem]) ⟨_, rfl, Below.refl _ _, by rintro t' ⟨⟩; rfl⟩
                          | 6, ho =>
                            obtain rfl := Option.some.inj ho
                            obtain ⟨_, h140, rfl⟩ := given_fed hg 140 (by decide +kernel)
                            clear hg
                            exact st_yield ho (wanted_none rfl) (.int .u64 (h : Int)) w6 (by simp [execOp, Act.eval, h140, go_sem, x3]) ⟨_, rfl, Below.refl _ _, by rintro t' ⟨⟩; rfl⟩
                          | 7, ho =>
                            obtain rfl := Option.some.inj ho
                            obtain ⟨v139', h139, p139⟩ := given_fed hg 139 (by decide +kernel)
                            have p139 : v139' = (.slice au es.length cu) := p139
                            rw [p139] at h139
                            obtain ⟨_, h141, rfl⟩ := given_fed hg 141 (by decide +kernel)
                            clear hg
                            exact st_enter (w1 := w6) ho (wanted_none rfl) 15 #[(.slice au es.length cu), .int .u64 (h : Int)] (by simp [execOp, Act.eval, h139, h141, resolve, go_sem]) ((CFL.out _ hb6).mono (by rintro e w7 ⟨v, F, rfl, ho7, hs7, hp7, hb7⟩; obtain rfl := HSF.out F hs7 hp7; exact ⟨v, rfl, _, rfl, hb7, by rintro t' ⟨⟩; exact ho7⟩))
                          | 8, ho =>
                            obtain rfl := Option.some.inj ho
                            obtain ⟨v138, h138, p138⟩ := given_fed hg 138 (by decide +kernel)
                            obtain ⟨v142, h142, p142⟩ := given_fed hg 142 (by decide +kernel)
                            clear hg
                            exact st_enter (w1 := w6) ho (wanted_none rfl) 13 #[v138, v142] (by simp [execOp, Act.eval, h138, h142, resolve, go_sem]) ((CEQ.out _ _ _ p138 p142).mono (by rintro e w7 ⟨rfl, hb7⟩; exact ⟨_, rfl, _, rfl, hb7, by rintro t' ⟨⟩; rfl⟩))
                          | 9, ho =>
                            obtain rfl := Option.some.inj ho
                            obtain ⟨_, h143, rfl⟩ := given_fed hg 143 (by decide +kernel)
                            clear hg
                            exact st_yield ho (wanted_none rfl) (.bool false) w6 (by simp [execOp, Act.eval, h143, go_sem]) ⟨_, rfl, Below.refl _ _, by rintro t' ⟨⟩; rfl⟩
                          | 10, ho =>
                            obtain rfl := Option.some.inj ho
                            obtain ⟨_, h144, rfl⟩ := given_fed hg 144 (by decide +kernel)
                            clear hg
                            exact st_yield ho (wanted_none rfl) (.bool false) w6 (by simp [execOp, Act.eval, h144, go_sem]) ⟨_, rfl, Below.refl _ _, by rintro t' ⟨⟩; rfl⟩
                          | 11, ho =>
                            obtain rfl := Option.some.inj ho
                            have h4 := given_old hg 4 (by decide +kernel)
                            obtain ⟨_, h145, rfl⟩ := given_fed hg 145 (by decide +kernel)
                            clear hg
                            exact st_yield ho (wanted_some rfl rfl h145 rfl) (.pointer (some ⟨d, 0, none⟩)) w6 (by simp [execOp, Act.eval, h4, go_sem]) ⟨_, rfl, Below.refl _ _, by rintro t' ⟨⟩; rfl⟩
                          | 12, ho =>
                            obtain rfl := Option.some.inj ho
                            have h5 := given_old hg 5 (by decide +kernel)
                            obtain ⟨_, h145, rfl⟩ := given_fed hg 145 (by decide +kernel)
                            clear hg
                            exact st_yield ho (wanted_some rfl rfl h145 rfl) ((.slice au es.length cu)) w6 (by simp [execOp, Act.eval, h5, go_sem]) ⟨_, rfl, Below.refl _ _, by rintro t' ⟨⟩; rfl⟩
                          | 13, ho =>
                            obtain rfl := Option.some.inj ho
                            obtain ⟨_, h146, rfl⟩ := given_fed hg 146 (by decide +kernel)
                            obtain ⟨v147', h147, p147⟩ := given_fed hg 147 (by decide +kernel)
                            have p147 : v147' = (.slice au es.length cu) := p147
                            rw [p147] at h147
                            obtain ⟨_, h145, rfl⟩ := given_fed hg 145 (by decide +kernel)
                            clear hg
                            exact st_enter (w1 := w6) ho (wanted_some rfl rfl h145 rfl) 16 #[.pointer (some ⟨d, 0, none⟩), (.slice au es.length cu)] (by simp [execOp, Act.eval, h146, h147, resolve, go_sem]) ((CLI.out _ hb6).mono (by rintro e w7 ⟨rfl, hb7⟩; exact ⟨_, rfl, _, rfl, hb7, by rintro t' ⟨⟩; rfl⟩))
                          | 14, ho =>
                            obtain rfl := Option.some.inj ho
                            obtain ⟨_, h148, rfl⟩ := given_fed hg 148 (by decide +kernel)
                            obtain ⟨_, h145, rfl⟩ := given_fed hg 145 (by decide +kernel)
                            clear hg
                            exact st_yield ho (wanted_some rfl rfl h145 rfl) (.bool false) w6 (by simp [execOp, Act.eval, h148, go_sem]) ⟨_, rfl, Below.refl _ _, by rintro t' ⟨⟩; rfl⟩
                          | 15, ho =>
                            obtain rfl := Option.some.inj ho
                            obtain ⟨_, h145, rfl⟩ := given_fed hg 145 (by decide +kernel)
                            obtain ⟨_, h149, rfl⟩ := given_fed hg 149 (by decide +kernel)
                            clear hg
                            exact st_yield ho (wanted_none rfl) (.bool false) w6 (by simp [execOp, Act.eval, h145, h149, go_sem]) ⟨_, rfl, Below.refl _ _, by rintro t' ⟨⟩; rfl⟩
                          | n + 16, ho => simp at ho
                        · intro f w9 hb9 hv
                          have h150 := hv 150 (by decide)
                          simp only [W32] at h150
                          have HC := Go.Lib.hid (HC.out.below hb9)
                          have HU := Go.Lib.hid (HU.out.below hb9)
                          have HV := Go.Lib.hid (HV.out.below hb9)
                          have HS := Go.Lib.hid (Nat.le_trans HS.out hb9.size)
                          have HB := Go.Lib.hid (below_to HB.out (Nat.le_refl _) hb9)
                          clear hv hb9 x0 x1 x2 x3 CFD CFL CLI CEQ
                          unfold putAll
                          simp only [List.foldl]
                          simp only [h150]
                          go_simp
                          go_wp2_with fail
                          go_roundw
                          case rel => exact ⟨k + 1, _, _, T, es, rfl, rfl, by have := HK.out; omega, by have := HK.out; omega, by go_num, HU.out, HV.out, HC.out, Go.Lib.hid ⟨HF.out, HES.out⟩, HS.out, HB.out⟩
                          case measure => simp only [intOf]; have := HK.out; omega
          · have hb1 : (kd == 1) = false := by simp [hk1]
            clear hk0 hk1
            go_wp2_with fail
            rw [← HWB.out, ← HP.out]
            clear HWB HP c0 c1 c2 c3 hix
            as_aux_lemma =>
              obtain ⟨x0, x1, x2, x3⟩ := box4 HBX.out
              have CFD := Go.Lib.hid (fun W hW => cfind_c (w := W) (HC.out.below hW) HF.out (x := h) HX.out (by have := HES.out.2; omega))
              have CFL := Go.Lib.hid (fun W hW => find_c _ _ h W ((HU.out.below hW).r) HES.out.1 HX.out (by have := HES.out.2; omega))
              have CLI := Go.Lib.hid (fun W hW => lies_c d _ _ _ W (HC.out.below hW) ((HU.out.below hW).r) HF.out HES.out.1 (by have := HES.out.2; omega))
              obtain ⟨SF, hSF⟩ : ∃ SF, SF = srtF es h := ⟨_, rfl⟩
              have HSF := Go.Lib.hid (fun (F : List Int) (h1 : F.Pairwise (· ≤ ·)) (h2 : F.Perm (findL es h)) => (srtF_of h1 h2).trans hSF.symm)
              have CEQ := Go.Lib.hid (fun a b W (ha : KI.R W a SF) (hb : KI.R W b SF) => by have := eqI_c a b SF SF W ha hb; rw [decide_eq_true rfl] at this; exact this)
              clear hSF
              go_upto_region 32 with (fail)
              refine wp_region_each (by kernel_rfl) (W32 ue d p h SF) (W32_below ue d p h SF) (by decide +kernel) (by decide +kernel) (by rfl) [135, 136, 137, 138, 139, 140, 141, 142, 143, 144, 145, 146, 147, 148, 149, 150] (by rfl) ?_ ?_
              · intro i o ho a w6 hb6 hlen hg
                have x0 := cell_on x0 hb6
                have x1 := cell_on x1 hb6
                have x2 := cell_on x2 hb6
                have x3 := cell_on x3 hb6
                match i, ho with
                | 0, ho =>
                  obtain rfl := Option.some.inj ho
                  have h4 := given_old hg 4 (by decide +kernel)
                  clear hg
                  exact st_yield ho (wanted_none rfl) (.pointer (some ⟨d, 0, none⟩)) w6 (by simp [execOp, Act.eval, h4, go_sem]) ⟨_, rfl, Below.refl _ _, by rintro t' ⟨⟩; rfl⟩
                | 1, ho =>
                  obtain rfl := Option.some.inj ho
                  have h8 := given_old hg 8 (by decide +kernel)
                  clear hg
                  exact st_yield ho (wanted_none rfl) (.pointer (some ⟨p, 3, none⟩)) w6 (by simp [execOp, Act.eval, h8, go_sem]) ⟨_, rfl, Below.refl _ _, by rintro t' ⟨⟩; rfl⟩
                | 2, ho =>
                  obtain rfl := Option.some.inj ho
                  obtain ⟨_, h136, rfl⟩ := given_fed hg 136 (by decide +kernel)
                  clear hg
                  exact st_yield ho (wanted_none rfl) (.int .u64 (h : Int)) w6 (by simp [execOp, Act.eval, h136, go_sem, x3]) ⟨_, rfl, Below.refl _ _, by rintro t' ⟨⟩; rfl⟩
                | 3, ho =>
                  obtain rfl := Option.some.inj ho
                  obtain ⟨_, h135, rfl⟩ := given_fed hg 135 (by decide +kernel)
                  obtain ⟨_, h137, rfl⟩ := given_fed hg 137 (by decide +kernel)
                  clear hg
                  exact st_enter (w1 := w6) ho (wanted_none rfl) 14 #[.pointer (some ⟨d, 0, none⟩), .int .u64 (h : Int)] (by simp [execOp, Act.eval, h135, h137, resolve, go_sem]) ((CFD.out _ hb6).mono (by rintro e w7 ⟨v, F, rfl, ho7, hs7, hp7, hb7⟩; obtain rfl := HSF.out F hs7 hp7; exact ⟨v, rfl, _, rfl, hb7, by rintro t' ⟨⟩; exact ho7.r⟩))
                | 4, ho =>
                  obtain rfl := Option.some.inj ho
                  have h5 := given_old hg 5 (by decide +kernel)
                  clear hg
                  exact st_yield ho (wanted_none rfl) (ue) w6 (by simp [execOp, Act.eval, h5, go_sem]) ⟨_, rfl, Below.refl _ _, by rintro t' ⟨⟩; rfl⟩
                | 5, ho =>
                  obtain rfl := Option.some.inj ho
                  have h8 := given_old hg 8 (by decide +kernel)
                  clear hg
                  exact st_yield ho (wanted_none rfl) (.pointer (some ⟨p, 3, none⟩)) w6 (by simp [execOp, Act.eval, h8, go_sem]) ⟨_, rfl, Below.refl _ _, by rintro t' ⟨⟩; rfl⟩
                | 6, ho =>
                  obtain rfl := Option.some.inj ho
                  obtain ⟨_, h140, rfl⟩ := given_fed hg 140 (by decide +kernel)
                  clear hg
                  exact st_yield ho (wanted_none rfl) (.int .u64 (h : Int)) w6 (by simp [execOp, Act.eval, h140, go_sem, x3]) ⟨_, rfl, Below.refl _ _, by rintro t' ⟨⟩; rfl⟩
                | 7, ho =>
                  obtain rfl := Option.some.inj ho
                  obtain ⟨v139', h139, p139⟩ := given_fed hg 139 (by decide +kernel)
                  have p139 : v139' = ue := p139
                  rw [p139] at h139
                  obtain ⟨_, h141, rfl⟩ := given_fed hg 141 (by decide +kernel)
                  clear hg
                  exact st_enter (w1 := w6) ho (wanted_none rfl) 15 #[ue, .int .u64 (h : Int)] (by simp [execOp, Act.eval, h139, h141, resolve, go_sem]) ((CFL.out _ hb6).mono (by rintro e w7 ⟨v, F, rfl, ho7, hs7, hp7, hb7⟩; obtain rfl := HSF.out F hs7 hp7; exact ⟨v, rfl, _, rfl, hb7, by rintro t' ⟨⟩; exact ho7⟩))
                | 8, ho =>
                  obtain rfl := Option.some.inj ho
                  obtain ⟨v138, h138, p138⟩ := given_fed hg 138 (by decide +kernel)
                  obtain ⟨v142, h142, p142⟩ := given_fed hg 142 (by decide +kernel)
                  clear hg
                  exact st_enter (w1 := w6) ho (wanted_none rfl) 13 #[v138, v142] (by simp [execOp, Act.eval, h138, h142, resolve, go_sem]) ((CEQ.out _ _ _ p138 p142).mono (by rintro e w7 ⟨rfl, hb7⟩; exact ⟨_, rfl, _, rfl, hb7, by rintro t' ⟨⟩; rfl⟩))
                | 9, ho =>
                  obtain rfl := Option.some.inj ho
                  obtain ⟨_, h143, rfl⟩ := given_fed hg 143 (by decide +kernel)
                  clear hg
                  exact st_yield ho (wanted_none rfl) (.bool false) w6 (by simp [execOp, Act.eval, h143, go_sem]) ⟨_, rfl, Below.refl _ _, by rintro t' ⟨⟩; rfl⟩
                | 10, ho =>
                  obtain rfl := Option.some.inj ho
                  obtain ⟨_, h144, rfl⟩ := given_fed hg 144 (by decide +kernel)
                  clear hg
                  exact st_yield ho (wanted_none rfl) (.bool false) w6 (by simp [execOp, Act.eval, h144, go_sem]) ⟨_, rfl, Below.refl _ _, by rintro t' ⟨⟩; rfl⟩
                | 11, ho =>
                  obtain rfl := Option.some.inj ho
                  have h4 := given_old hg 4 (by decide +kernel)
                  obtain ⟨_, h145, rfl⟩ := given_fed hg 145 (by decide +kernel)
                  clear hg
                  exact st_yield ho (wanted_some rfl rfl h145 rfl) (.pointer (some ⟨d, 0, none⟩)) w6 (by simp [execOp, Act.eval, h4, go_sem]) ⟨_, rfl, Below.refl _ _, by rintro t' ⟨⟩; rfl⟩
                | 12, ho =>
                  obtain rfl := Option.some.inj ho
                  have h5 := given_old hg 5 (by decide +kernel)
                  obtain ⟨_, h145, rfl⟩ := given_fed hg 145 (by decide +kernel)
                  clear hg
                  exact st_yield ho (wanted_some rfl rfl h145 rfl) (ue) w6 (by simp [execOp, Act.eval, h5, go_sem]) ⟨_, rfl, Below.refl _ _, by rintro t' ⟨⟩; rfl⟩
                | 13, ho =>
                  obtain rfl := Option.some.inj ho
                  obtain ⟨_, h146, rfl⟩ := given_fed hg 146 (by decide +kernel)
                  obtain ⟨v147', h147, p147⟩ := given_fed hg 147 (by decide +kernel)
                  have p147 : v147' = ue := p147
                  rw [p147] at h147
                  obtain ⟨_, h145, rfl⟩ := given_fed hg 145 (by decide +kernel)
                  clear hg
                  exact st_enter (w1 := w6) ho (wanted_some rfl rfl h145 rfl) 16 #[.pointer (some ⟨d, 0, none⟩), ue] (by simp [execOp, Act.eval, h146, h147, resolve, go_sem]) ((CLI.out _ hb6).mono (by rintro e w7 ⟨rfl, hb7⟩; exact ⟨_, rfl, _, rfl, hb7, by rintro t' ⟨⟩; rfl⟩))
                | 14, ho =>
                  obtain rfl := Option.some.inj ho
                  obtain ⟨_, h148, rfl⟩ := given_fed hg 148 (by decide +kernel)
                  obtain ⟨_, h145, rfl⟩ := given_fed hg 145 (by decide +kernel)
                  clear hg
                  exact st_yield ho (wanted_some rfl rfl h145 rfl) (.bool false) w6 (by simp [execOp, Act.eval, h148, go_sem]) ⟨_, rfl, Below.refl _ _, by rintro t' ⟨⟩; rfl⟩
                | 15, ho =>
                  obtain rfl := Option.some.inj ho
                  obtain ⟨_, h145, rfl⟩ := given_fed hg 145 (by decide +kernel)
                  obtain ⟨_, h149, rfl⟩ := given_fed hg 149 (by decide +kernel)
                  clear hg
                  exact st_yield ho (wanted_none rfl) (.bool false) w6 (by simp [execOp, Act.eval, h145, h149, go_sem]) ⟨_, rfl, Below.refl _ _, by rintro t' ⟨⟩; rfl⟩
                | n + 16, ho => simp at ho
              · intro f w9 hb9 hv
                have h150 := hv 150 (by decide)
                simp only [W32] at h150
                have HC := Go.Lib.hid (HC.out.below hb9)
                have HU := Go.Lib.hid (HU.out.below hb9)
                have HV := Go.Lib.hid (HV.out.below hb9)
                have HS := Go.Lib.hid (Nat.le_trans HS.out hb9.size)
                have HB := Go.Lib.hid (below_to HB.out (Nat.le_refl _) hb9)
                clear hv hb9 x0 x1 x2 x3 CFD CFL CLI CEQ
                unfold putAll
                simp only [List.foldl]
                simp only [h150]
                go_simp
                go_wp2_with fail
                go_roundw
                case rel => exact ⟨k + 1, _, _, T, es, rfl, rfl, by have := HK.out; omega, by have := HK.out; omega, by go_num, HU.out, HV.out, HC.out, Go.Lib.hid ⟨HF.out, HES.out⟩, HS.out, HB.out⟩
                case measure => simp only [intOf]; have := HK.out; omega
      · have hkJ : ¬ (k : Int) < 60 := by omega
        have hkI : (k : Int) < (l0.length : Int) := by omega
        go_wp2_with fail
        go_ret
        exact ⟨rfl, hbc⟩
    · have hkI : ¬ (k : Int) < (l0.length : Int) := by omega
      go_wp2_with fail
      go_ret
      exact ⟨rfl, hbc⟩

/-! ### THE ROW -/
set_option maxRecDepth 100000 in
theorem lifted (os : Os) (started : os.Started) (H : Type) (enc : TypeId × Value → H) :
    ReturnsInHanded {} Try.checked os 3 .any (Rows.cuckooAllSpec.pre6 enc Try.prog Try.f3 Rows.cuckooAllRow.domain false) (Rows.cuckooAllSpec.post enc Try.prog Try.f3 false true false false) := by
  refine returnsInHanded_of_change (C := Try.checked) own started (by kernel_rfl) Try.func3
    (ChangeSpec.witness6 (enc := enc) (C := Try.checked) false ⟨#[], #[.slice none 0 0], []⟩ 8 (by kernel_rfl) (by kernel_rfl) (by kernel_rfl) (by kernel_rfl)) ?_
  intro W base args ds gs before hval0 hW hcnd _
  have hval : ∀ (j : Nat) t v, Try.f3.params[j]? = some t → args[j]? = some v → Value.okWide Try.prog W .any base t v := hval0
  have hW' := hW
  obtain ⟨p, q, hA0, hV, rfl, hfz, hnd⟩ := hW
  have hA : DataW.TrodAll enc Try.prog W 0 (fun _ => true) true Try.f3.params.toList args.toList ds p := hA0
  rw [Try.params3] at hA hval
  obtain ⟨v0, vs0, d0, ds0, p0, q0, hargs, rfl, rfl, h0, r0⟩ := trodAll_cons hA
  obtain ⟨rfl, rfl, rfl⟩ := trodAll_nil r0
  obtain rfl : args = #[v0] := by cases args; simp_all
  obtain ⟨rfl, rfl⟩ := trodVars_none hV
  have kk0 := h0
  have lt0 : ∀ x ∈ p0, x.block < W.heap.size := by obtain ⟨m, hm⟩ := kk0; exact DataW.trod_lt m _ _ _ hm
  obtain ⟨a0, len0, cap0, rfl⟩ := okWide_slice Try.underlying22 (hval 0 22 v0 rfl rfl)
  obtain ⟨l0, w0⟩ := open_opcs h0
  clear hA0 hval0
  refine (walk W a0 len0 cap0 l0 w0).mono fun e W' ⟨he, bel⟩ => ?_
  subst he
  exact ⟨_, rfl, _, _, _, [], _, [], hW', trodAll_mk1 (shut_bool Try.underlying4 _), (trodAll_cons_mk (Below.trod laidOut (by kernel_rfl) (of_decide_eq_true (by kernel_rfl)) kk0 bel lt0) trodAll_mk0), rfl, bel.frame _, fun h => by cases h⟩

theorem over : Rows.cuckooAllRow.holds Try.pinned (OpenSpec.ofChange Rows.cuckooAllSpec) :=
  OpenClaim.holds_of_wide 3 Try.f3 rfl rfl rfl rfl rfl rfl rfl ⟨rfl, rfl, rfl, rfl, rfl⟩ rfl rfl rfl rfl rfl (by kernel_rfl) Try.func3 (by kernel_rfl)
    (of_decide_eq_true (by kernel_rfl)) (by unfold Func.isWrapper; first | (rw [if_pos (by decide +kernel)]; kernel_rfl) | (rw [if_neg (by decide +kernel)]; exact ⟨rfl, rfl⟩))
    (fun os started H enc _ => lifted os started H enc)

theorem proved : Rows.CuckooAllSaid := over
#print axioms proved
end Go.Proofs.Ytgbaeipemlcbcaa.cuckooAll
