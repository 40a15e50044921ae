/- OrderKeys: any two keys can be laid in one table: for every input the law returns true. -/
import Derived.Test.YtgalppnpmfpdbaaRows
import Derived.WalkKit
import Derived.ProofKit
import Derived.OpenShut
import Derived.ShutString
import Derived.Test.YtgalppnpmfpdbaaM14
import Derived.Test.YtgalppnpmfpdbaaM02
import Derived.Test.YtgalppnpmfpdbaaM15
namespace Go.Proofs.Ytgalppnpmfpdbaa.orderKeys
open Go.ChangeShapes Go.WideShapes Go.ChangeAt Go.RowKit
open Go.ChangeMaps (open_string shut_string)
set_option linter.unusedVariables false      -- a walk need not use every 'w<i>' (that an integer argument fits its kind)

theorem own : ownKnob Try.prog.godebug = none := by kernel_rfl

def VOk (TL : List Value) (kp kq : ByteArray) (b8 o8 c8 : Nat) : Nat → World → Value → Prop
  | 4, _, v => v = .bool true
  | 35, _, v => v = .slice (some ⟨b8, o8, none⟩) 2 c8
  | 36, _, v => v = .int .i64 2
  | 37, _, v => v = .bool true
  | 38, _, v => v = .bool true
  | 39, _, v => v = .slice (some ⟨b8, o8, none⟩) 2 c8
  | 40, _, v => v = .pointer (some ⟨b8, o8, none⟩)
  | 41, _, v => v = .pointer (some ⟨b8, o8, none⟩)
  | 42, _, v => v = .string kp
  | 43, _, v => v = .slice (some ⟨b8, o8, none⟩) 2 c8
  | 44, _, v => v = .pointer (some ⟨b8, o8 + 5, none⟩)
  | 45, _, v => v = .pointer (some ⟨b8, o8 + 5, none⟩)
  | 46, _, v => v = .string kq
  | 47, _, v => v = .bool true
  | 48, _, v => v = .bool true
  | 49, _, v => v = .bool true
  | 50, _, v => v = .agg TL.toArray
  | 51, _, v => v = .agg TL.toArray
  | 52, _, v => v = .bool true
  | 53, _, v => v = .bool true
  | _, _, _ => True

theorem VOk_below (TL : List Value) (kp kq : ByteArray) (b8 o8 c8 : Nat) : ∀ (i : Nat) (w w' : World) (v : Value), VOk TL kp kq b8 o8 c8 i w v → Below w.heap.size w w' → VOk TL kp kq b8 o8 c8 i w' v := by
  intro i w w' v h hb
  unfold VOk at h ⊢
  split at h <;> first | exact h | trivial | exact RB.below h hb | exact Own.below h hb | exact OwnV.below h hb | exact OwnRec.below h hb | exact Lay.R.below h hb


theorem RS.pair (w : World) (x y : RecT) : RS (w.alloc (.cells #[.string x.1, .bool x.2.1, .int .i64 x.2.2.1, .int .i64 x.2.2.2.1, .string x.2.2.2.2, .string y.1, .bool y.2.1, .int .i64 y.2.2.1, .int .i64 y.2.2.2.1, .string y.2.2.2.2] 28)) (.slice (some ⟨w.heap.size, 0, none⟩) 2 2) [x, y] := by
  refine ⟨some ⟨w.heap.size, 0, none⟩, 2, rfl, Nat.le_refl _, by simp [maxLen], (fun h => by cases h), fun _ => ⟨w.heap.size, 0, rfl, fun i hi => ?_⟩⟩
  have c := fun j => cell_of_row _ w.heap.size j _ _ _ (heap_alloc_new w (.cells #[.string x.1, .bool x.2.1, .int .i64 x.2.2.1, .int .i64 x.2.2.2.1, .string x.2.2.2.2, .string y.1, .bool y.2.1, .int .i64 y.2.2.1, .int .i64 y.2.2.2.1, .string y.2.2.2.2] 28))
  match i, hi with
  | 0, _ => exact ⟨c 0, c 1, c 2, c 3, c 4⟩
  | 1, _ => exact ⟨c 5, c 6, c 7, c 8, c 9⟩
  | n + 2, hi => simp at hi; omega
/-- A key's record that is gone. -/
def goneR (k : ByteArray) : RecT := (k, true, 0, 0, ⟨#[]⟩)
theorem cut_short {k : ByteArray} (h : k.size ≤ 20) : cutR (goneR k) = goneR k := by
  have hl : (bl k).length = k.size := by have := str_size (bl k); rw [str_bl] at this; exact this.symm
  unfold cutR goneR
  simp only []
  rw [List.take_of_length_le (by omega), str_bl]
  rfl
theorem gone_may {k : ByteArray} (h0 : 1 ≤ k.size) (h1 : k.size ≤ 16) : mayT (goneR k) = true := by
  unfold mayT goneR mayRec mayK
  simp [h0, h1]
theorem gone_ok {k : ByteArray} (h1 : k.size ≤ 16) : RecOk (goneR k) := by
  unfold goneR RecOk
  simp only []
  refine ⟨by unfold maxLen; omega, by decide, by decide, by decide⟩
theorem lay_two {ka kb : ByteArray} (a0 : 1 ≤ ka.size) (a1 : ka.size ≤ 16) (b0 : 1 ≤ kb.size) (b1 : kb.size ≤ 16) (hne : ka.toList ≠ kb.toList) : (recsT (layN [goneR ka, goneR kb] [] 2) 32).Perm [goneR ka, goneR kb] := by
  have e : layN [goneR ka, goneR kb] [] 2 = lay1 (lay1 zeroT 0 (goneR ka) false) 1 (goneR kb) false := by
    simp only [layN, List.getD_cons_zero, List.getD_cons_succ, List.getD_nil]
    rw [cut_short (by omega), cut_short (by omega)]
  rw [e, lay_zero 0 false (gone_may a0 a1)]
  obtain ⟨q, hq⟩ : ∃ q, q = 4 * layB (goneR ka) false + (0 + 0) % 4 := ⟨_, rfl⟩
  rw [← hq]
  have hq32 : q < 32 := by have := layB_lt (goneR ka) false; omega
  have hr := recs_one (TT := setT zeroT q (true, goneR ka)) rfl hq32
  unfold lay1
  rw [hr, gone_may b0 b1, if_neg]
  · exact layPut_two (layB_lt (goneR kb) false) (goneR kb) (goneR ka) hr
  · simp only [Bool.not_true, Bool.or_false]
    intro hc
    have hk : KeysOk [goneR ka] := by simp [KeysOk]
    rw [newest_find hk, (find_none _).2] at hc
    · cases hc
    · intro x hx
      rw [List.mem_singleton.1 hx]
      exact hne
set_option maxHeartbeats 16000000 in
set_option maxRecDepth 100000 in
theorem walk (a0 : ByteArray) (a1 : ByteArray) (w0 : a0.size ≤ maxLen) (w1 : a1.size ≤ maxLen) (w : World) :
    Calls Try.prog 6 #[.string a0, .string a1] w fun e w' => e = .returned (.bool true) ∧ Below w.heap.size w w' := by
  have CBG := Go.Lib.hid (begun19_c w)
  have C0 := Go.Lib.hid fun W => lcut_c a0 16 W w0 (by decide)
  have C1 := Go.Lib.hid fun W => lcut_c a1 16 W w1 (by decide)
  have hka : (str ((bl a0).take 16)).size ≤ 16 := by rw [str_size, List.length_take]; omega
  have hkb : (str ((bl a1).take 16)).size ≤ 16 := by rw [str_size, List.length_take]; omega
  clear w0 w1
  generalize str ((bl a0).take 16) = ka at *
  generalize str ((bl a1).take 16) = kb at *
  have hem : ∀ k : ByteArray, ¬ 1 ≤ k.size → k.toList = [] := fun k h => by
    rw [ByteArray.toList_eq]
    have : k.data.size = 0 := by have : k.size = k.data.size := rfl; omega
    exact List.eq_nil_of_length_eq_zero (by rw [Array.length_toList]; exact this)
  have hne0 : ∀ k : ByteArray, 1 ≤ k.size → (k.toList == []) = false := fun k h => by
    rw [beq_eq_false_iff_ne]
    intro e
    rw [ByteArray.toList_eq] at e
    have : k.data.size = 0 := by rw [← Array.length_toList, e]; rfl
    have : k.size = k.data.size := rfl
    omega
  have hz0 : ByteArray.toList ⟨#[]⟩ = [] := by decide +kernel
  go_enter Try.func6, Try.ntmps6
  go_wp2_with fail
  refine CBG.out.mono ?_
  rintro e w2 ⟨rfl, hc⟩
  have HB := Go.Lib.hid hc
  clear hc CBG
  go_wp2_with fail
  refine (C0.out _).mono ?_
  rintro e w3 ⟨rfl, rfl⟩
  go_wp2_with fail
  refine (C1.out _).mono ?_
  rintro e w3 ⟨rfl, rfl⟩
  clear C0 C1
  by_cases ha : 1 ≤ ka.size
  · have hab := hne0 ka ha
    by_cases hb : 1 ≤ kb.size
    · have hbb := hne0 kb hb
      by_cases hq : ka.toList = kb.toList
      · have hqb : (ka.toList == kb.toList) = true := beq_iff_eq.2 hq
        have hab' : (ka.toList == ByteArray.toList ⟨#[]⟩) = false := by rw [hz0]; exact hab
        have hbb' : (kb.toList == ByteArray.toList ⟨#[]⟩) = false := by rw [hz0]; exact hbb
        go_wp2_with fail
        go_ret
        exact ⟨rfl, HB.out⟩
      · have hqb : (ka.toList == kb.toList) = false := beq_eq_false_iff_ne.2 hq
        have hab' : (ka.toList == ByteArray.toList ⟨#[]⟩) = false := by rw [hz0]; exact hab
        have hbb' : (kb.toList == ByteArray.toList ⟨#[]⟩) = false := by rw [hz0]; exact hbb
        have HQ := Go.Lib.hid hq
        have HPM := Go.Lib.hid (lay_two ha hka hb hkb hq)
        have hmok : ∀ x ∈ [goneR ka, goneR kb], RecOk x := fun x hx => by
          rcases List.mem_cons.1 hx with rfl | hx
          · exact gone_ok hka
          · rw [List.mem_singleton.1 hx]; exact gone_ok hkb
        have CL := Go.Lib.hid fun v W (h : RS W v [goneR ka, goneR kb]) => llay_c v (.slice none 0 0) [goneR ka, goneR kb] [] W h ⟨none, 0, rfl, Nat.le_refl _, by simp [maxLen], fun _ => rfl, fun h => absurd rfl h⟩ hmok
        rw [show min [goneR ka, goneR kb].length 40 = 2 from rfl] at CL
        have HOK := Go.Lib.hid (layN_ok (l := [goneR ka, goneR kb]) [] hmok 2)
        have HRP := Go.Lib.hid (fun W : World => RS.pair W (goneR ka) (goneR kb))
        unfold goneR at HRP
        simp only [] at HRP
        clear hq hmok
        generalize layN [goneR ka, goneR kb] [] 2 = TT at *
        have hzr := zero_tabRZ
        have COF := Go.Lib.hid fun W => lof_c TT W
        have CLS := Go.Lib.hid fun W => olist_c TT W HOK.out.sizes
        have CM := fun W => omay_c TT W HOK.out.sizes
        rw [HOK.out.ok] at CM
        have CM := Go.Lib.hid CM
        have HSR := Go.Lib.hid (sizeTab TT)
        have HTO := Go.Lib.hid (tabL_one TT)
        have HLE := Go.Lib.hid (show (tabL zeroT 32).length = (tabL TT 32).length from by rw [tabL_len, tabL_len])
        generalize tabL zeroT 32 = ZL at *
        generalize tabL TT 32 = TL at *
        go_upto_region 7 with (fail)
        have hb3 := below_one w2 (.cells #[.string ka, .bool true, .int .i64 0, .int .i64 0, .string ⟨#[]⟩, .string kb, .bool true, .int .i64 0, .int .i64 0, .string ⟨#[]⟩] 28)
        have HR3 := Go.Lib.hid (HRP.out w2)
        have HB3 := Go.Lib.hid (HB.out.trans (hb3.mono HB.out.size))
        clear hb3 HRP HB
        go_wp2_with fail
        refine (CL.out _ _ HR3.out).mono ?_
        rintro e w4 ⟨rfl, hc⟩
        have HB4 := Go.Lib.hid (HB3.out.trans (hc.mono HB3.out.size))
        have hb5 := below_one w4 (.cells ZL.toArray 33)
        have HZ6 := Go.Lib.hid (heap_alloc_new w4 (.cells ZL.toArray 33))
        have HX6 := Go.Lib.hid (setRow_heap _ w4.heap.size _ TL.toArray 33 (0, 0) HZ6.out)
        have HB5 := Go.Lib.hid (HB4.out.trans ((setRow_below TL.toArray hb5 (Nat.le_refl _)).mono HB4.out.size))
        clear hc hb5 CL HR3 HB3 HB4
        go_upto_region 8 with (first
          | (with_reducible show wpList _ _ _ (⟨none, Op.store 33 (.tmp 6) (.tmp 31), _, _, _, _⟩ :: _) _ _; go_loud (refine wpList_store_row rfl 33 (.tmp 6) (.tmp 31) rfl w4.heap.size TL.toArray rfl rfl 33 _ HZ6.out (by rw [HSR.out, List.size_toArray]) (by rw [List.size_toArray, List.size_toArray]; exact HLE.out) HTO.out ?_))
          | fail)
        obtain ⟨g6, hg6⟩ : ∃ g, g = w4.heap.size := ⟨_, rfl⟩
        rw [← hg6] at HX6 HB5 ⊢
        clear hg6 HZ6 hzr
        generalize (w4.alloc (.cells ZL.toArray 33)).setRow g6 TL.toArray = w5 at *
        go_wp2_with (first
          | (with_reducible show wpList _ _ _ (⟨some 32, _, _, _, _, _⟩ :: _) _ _; go_loud (refine wpList_load_row rfl 33 (.tmp 6) rfl g6 rfl 33 TL.toArray (0, 0) _ HX6.out Try.underlying33 rfl (by rw [HSR.out, List.size_toArray]) ?_))
          | fail)
        refine (COF.out _).mono ?_
        rintro e w6 ⟨rfl, hc⟩
        have HX6 := Go.Lib.hid (row_kept HX6.out hc)
        have HB6 := Go.Lib.hid (HB5.out.trans (hc.mono HB5.out.size))
        clear hc HB5
        go_wp2_with fail
        refine (CLS.out _).mono ?_
        rintro e w7 ⟨v8, l8, rfl, hp, hrise, ho, hc⟩
        have hp2 := hp.trans HPM.out
        have hl2 : l8.length = 2 := hp2.length_eq
        obtain ⟨p, q, rfl⟩ : ∃ p q, l8 = [p, q] := by match l8, hl2 with | [p, q], _ => exact ⟨p, q, rfl⟩
        have hltk : Op.bytesLess p.1.toList q.1.toList = true := by
          have h1 : Op.bytesLess (keyR q) (keyR p) = false := by
            unfold RiseL at hrise
            exact (List.pairwise_cons.1 hrise).1 q (by simp)
          have hk : KeysOk [p, q] := (show KeysOk [goneR ka, goneR kb] from by
            unfold KeysOk
            simp only [List.map_cons, List.map_nil, List.nodup_cons, List.mem_cons, List.not_mem_nil, or_false, not_false_eq_true, List.nodup_nil, and_true]
            exact HQ.out).perm hp2.symm
          have h2 : keyR p ≠ keyR q := by
            unfold KeysOk at hk
            simp only [List.map_cons, List.map_nil, List.nodup_cons, List.mem_cons, List.not_mem_nil, or_false] at hk
            exact hk.1
          rcases less_tri (keyR p) (keyR q) with h3 | h3 | h3
          · exact h3
          · exact absurd h3 h2
          · rw [h3] at h1; cases h1
        have hrs := ho.rs
        obtain ⟨a8, c8, rfl, -⟩ := hrs.form
        obtain ⟨b8, o8, rfl, -⟩ := hrs.at 0 (by simp)
        have HC8 := Go.Lib.hid (fun W (hb : Below w7.heap.size w7 W) => show W.cell? ⟨b8, o8, none⟩ = some (.string p.1) ∧ W.cell? ⟨b8, o8 + 5, none⟩ = some (.string q.1) from by
          obtain ⟨b', o', he, -, -, z0, -⟩ := (hrs.below hb).at 0 (by simp)
          obtain ⟨b2, o2, he2, -, -, y0, -⟩ := (hrs.below hb).at 1 (by simp)
          cases he
          cases he2
          exact ⟨by simpa using z0, by simpa using y0⟩)
        have HX6 := Go.Lib.hid (row_kept HX6.out hc)
        have HB7 := Go.Lib.hid (HB6.out.trans (hc.mono HB6.out.size))
        have hix0 := run_idx5 b8 o8 2 c8 0 (by decide)
        have hix1 := run_idx5 b8 o8 2 c8 1 (by decide)
        rw [Nat.zero_mul, Nat.add_zero] at hix0
        rw [Nat.one_mul] at hix1
        simp only [List.length_cons, List.length_nil, Nat.zero_add]
        have hlt := hltk
        clear hp hp2 hl2 hrise ho hc CLS HB6 hrs hltk HPM
        generalize p.1 = kp at *
        generalize q.1 = kq at *
        go_upto_region 9 with (fail)
        refine wp_region_each (by kernel_rfl) (VOk TL kp kq b8 o8 c8) (VOk_below TL kp kq b8 o8 c8) (by decide +kernel) (by decide +kernel) (by rfl) [35, 36, 37, 38, 39, 40, 41, 42, 43, 44, 45, 46, 47, 48, 49, 50, 51, 52, 53, 4] (by rfl) ?_ ?_
        · intro i o ho a w6 hb6 hlen hg
          obtain ⟨z0, y0⟩ := HC8.out w6 hb6
          match i, ho with
          | 0, ho =>
            obtain rfl := Option.some.inj ho
            have h7 := given_old hg 7 (by decide +kernel)
            clear hg
            exact st_yield ho (wanted_none rfl) (.slice (some ⟨b8, o8, none⟩) 2 c8) w6 (by simp [execOp, Act.eval, h7, go_sem]) ⟨_, rfl, Below.refl _ _, by rintro t' ⟨⟩; rfl⟩
          | 1, ho =>
            obtain rfl := Option.some.inj ho
            obtain ⟨_, h35, rfl⟩ := given_fed hg 35 (by decide +kernel)
            clear hg
            exact st_yield ho (wanted_none rfl) (.int .i64 2) w6 (by simp [execOp, Act.eval, h35, go_sem, resolve]) ⟨_, rfl, Below.refl _ _, by rintro t' ⟨⟩; rfl⟩
          | 2, ho =>
            obtain rfl := Option.some.inj ho
            obtain ⟨_, h36, rfl⟩ := given_fed hg 36 (by decide +kernel)
            clear hg
            exact st_yield ho (wanted_none rfl) (.bool true) w6 (by simp [execOp, Act.eval, h36, go_sem]) ⟨_, rfl, Below.refl _ _, by rintro t' ⟨⟩; rfl⟩
          | 3, ho =>
            obtain rfl := Option.some.inj ho
            obtain ⟨_, h37, rfl⟩ := given_fed hg 37 (by decide +kernel)
            clear hg
            exact st_yield ho (wanted_none rfl) (.bool true) w6 (by simp [execOp, Act.eval, h37, go_sem]) ⟨_, rfl, Below.refl _ _, by rintro t' ⟨⟩; rfl⟩
          | 4, ho =>
            obtain rfl := Option.some.inj ho
            have h7 := given_old hg 7 (by decide +kernel)
            obtain ⟨_, h38, rfl⟩ := given_fed hg 38 (by decide +kernel)
            clear hg
            exact st_yield ho (wanted_some rfl rfl h38 rfl) (.slice (some ⟨b8, o8, none⟩) 2 c8) w6 (by simp [execOp, Act.eval, h7, go_sem]) ⟨_, rfl, Below.refl _ _, by rintro t' ⟨⟩; rfl⟩
          | 5, ho =>
            obtain rfl := Option.some.inj ho
            obtain ⟨_, h39, rfl⟩ := given_fed hg 39 (by decide +kernel)
            obtain ⟨_, h38, rfl⟩ := given_fed hg 38 (by decide +kernel)
            clear hg
            exact st_yield ho (wanted_some rfl rfl h38 rfl) (.pointer (some ⟨b8, o8, none⟩)) w6 (by simp [execOp, Act.eval, h39, go_sem]) ⟨_, rfl, Below.refl _ _, by rintro t' ⟨⟩; rfl⟩
          | 6, ho =>
            obtain rfl := Option.some.inj ho
            obtain ⟨_, h40, rfl⟩ := given_fed hg 40 (by decide +kernel)
            obtain ⟨_, h38, rfl⟩ := given_fed hg 38 (by decide +kernel)
            clear hg
            exact st_yield ho (wanted_some rfl rfl h38 rfl) (.pointer (some ⟨b8, o8, none⟩)) w6 (by simp [execOp, Act.eval, h40, go_sem]) ⟨_, rfl, Below.refl _ _, by rintro t' ⟨⟩; rfl⟩
          | 7, ho =>
            obtain rfl := Option.some.inj ho
            obtain ⟨_, h41, rfl⟩ := given_fed hg 41 (by decide +kernel)
            obtain ⟨_, h38, rfl⟩ := given_fed hg 38 (by decide +kernel)
            clear hg
            exact st_yield ho (wanted_some rfl rfl h38 rfl) (.string kp) w6 (by simp [execOp, Act.eval, h41, go_sem, z0]) ⟨_, rfl, Below.refl _ _, by rintro t' ⟨⟩; rfl⟩
          | 8, ho =>
            obtain rfl := Option.some.inj ho
            have h7 := given_old hg 7 (by decide +kernel)
            obtain ⟨_, h38, rfl⟩ := given_fed hg 38 (by decide +kernel)
            clear hg
            exact st_yield ho (wanted_some rfl rfl h38 rfl) (.slice (some ⟨b8, o8, none⟩) 2 c8) w6 (by simp [execOp, Act.eval, h7, go_sem]) ⟨_, rfl, Below.refl _ _, by rintro t' ⟨⟩; rfl⟩
          | 9, ho =>
            obtain rfl := Option.some.inj ho
            obtain ⟨_, h43, rfl⟩ := given_fed hg 43 (by decide +kernel)
            obtain ⟨_, h38, rfl⟩ := given_fed hg 38 (by decide +kernel)
            clear hg
            exact st_yield ho (wanted_some rfl rfl h38 rfl) (.pointer (some ⟨b8, o8 + 5, none⟩)) w6 (by simp [execOp, Act.eval, h43, go_sem]) ⟨_, rfl, Below.refl _ _, by rintro t' ⟨⟩; rfl⟩
          | 10, ho =>
            obtain rfl := Option.some.inj ho
            obtain ⟨_, h44, rfl⟩ := given_fed hg 44 (by decide +kernel)
            obtain ⟨_, h38, rfl⟩ := given_fed hg 38 (by decide +kernel)
            clear hg
            exact st_yield ho (wanted_some rfl rfl h38 rfl) (.pointer (some ⟨b8, o8 + 5, none⟩)) w6 (by simp [execOp, Act.eval, h44, go_sem]) ⟨_, rfl, Below.refl _ _, by rintro t' ⟨⟩; rfl⟩
          | 11, ho =>
            obtain rfl := Option.some.inj ho
            obtain ⟨_, h45, rfl⟩ := given_fed hg 45 (by decide +kernel)
            obtain ⟨_, h38, rfl⟩ := given_fed hg 38 (by decide +kernel)
            clear hg
            exact st_yield ho (wanted_some rfl rfl h38 rfl) (.string kq) w6 (by simp [execOp, Act.eval, h45, go_sem, y0]) ⟨_, rfl, Below.refl _ _, by rintro t' ⟨⟩; rfl⟩
          | 12, ho =>
            obtain rfl := Option.some.inj ho
            obtain ⟨_, h42, rfl⟩ := given_fed hg 42 (by decide +kernel)
            obtain ⟨_, h46, rfl⟩ := given_fed hg 46 (by decide +kernel)
            obtain ⟨_, h38, rfl⟩ := given_fed hg 38 (by decide +kernel)
            clear hg
            exact st_yield ho (wanted_some rfl rfl h38 rfl) (.bool true) w6 (by simp [execOp, Act.eval, h42, h46, go_sem, hlt]) ⟨_, rfl, Below.refl _ _, by rintro t' ⟨⟩; rfl⟩
          | 13, ho =>
            obtain rfl := Option.some.inj ho
            obtain ⟨_, h38, rfl⟩ := given_fed hg 38 (by decide +kernel)
            obtain ⟨_, h47, rfl⟩ := given_fed hg 47 (by decide +kernel)
            clear hg
            exact st_yield ho (wanted_none rfl) (.bool true) w6 (by simp [execOp, Act.eval, h38, h47, go_sem]) ⟨_, rfl, Below.refl _ _, by rintro t' ⟨⟩; rfl⟩
          | 14, ho =>
            obtain rfl := Option.some.inj ho
            obtain ⟨_, h48, rfl⟩ := given_fed hg 48 (by decide +kernel)
            clear hg
            exact st_yield ho (wanted_none rfl) (.bool true) w6 (by simp [execOp, Act.eval, h48, go_sem]) ⟨_, rfl, Below.refl _ _, by rintro t' ⟨⟩; rfl⟩
          | 15, ho =>
            obtain rfl := Option.some.inj ho
            have h6 := given_old hg 6 (by decide +kernel)
            obtain ⟨_, h49, rfl⟩ := given_fed hg 49 (by decide +kernel)
            clear hg
            exact st_list ho (wanted_some rfl rfl h49 rfl) fun Q' hQ => wpList_met (wanted_some rfl rfl h49 rfl) (wpList_load_row rfl 33 (.tmp 6) rfl g6 (by simp [Act.eval, h6]) 33 TL.toArray (0, 0) _ (row_kept HX6.out hb6) Try.underlying33 rfl (by rw [HSR.out, List.size_toArray]) (wpList_nil (hQ _ _ ⟨_, rfl, Below.refl _ _, by rintro t' ⟨⟩; rfl⟩)))
          | 16, ho =>
            obtain rfl := Option.some.inj ho
            obtain ⟨_, h50, rfl⟩ := given_fed hg 50 (by decide +kernel)
            obtain ⟨_, h49, rfl⟩ := given_fed hg 49 (by decide +kernel)
            clear hg
            exact st_enter (w1 := w6) ho (wanted_some rfl rfl h49 rfl) 9 #[.agg TL.toArray] (by simp [execOp, Act.eval, h50, resolve, go_sem]) ((COF.out w6).mono (by rintro e w7 ⟨rfl, hb7⟩; exact ⟨_, rfl, _, rfl, hb7, by rintro t' ⟨⟩; rfl⟩))
          | 17, ho =>
            obtain rfl := Option.some.inj ho
            obtain ⟨_, h51, rfl⟩ := given_fed hg 51 (by decide +kernel)
            obtain ⟨_, h49, rfl⟩ := given_fed hg 49 (by decide +kernel)
            clear hg
            exact st_enter (w1 := w6) ho (wanted_some rfl rfl h49 rfl) 12 #[.agg TL.toArray] (by simp [execOp, Act.eval, h51, resolve, go_sem]) ((CM.out w6).mono (by rintro e w7 ⟨rfl, hb7⟩; exact ⟨_, rfl, _, rfl, hb7, by rintro t' ⟨⟩; rfl⟩))
          | 18, ho =>
            obtain rfl := Option.some.inj ho
            obtain ⟨_, h49, rfl⟩ := given_fed hg 49 (by decide +kernel)
            obtain ⟨_, h52, rfl⟩ := given_fed hg 52 (by decide +kernel)
            clear hg
            exact st_yield ho (wanted_none rfl) (.bool true) w6 (by simp [execOp, Act.eval, h49, h52, go_sem]) ⟨_, rfl, Below.refl _ _, by rintro t' ⟨⟩; rfl⟩
          | 19, ho =>
            obtain rfl := Option.some.inj ho
            obtain ⟨_, h53, rfl⟩ := given_fed hg 53 (by decide +kernel)
            clear hg
            exact st_yield ho (wanted_none rfl) (.bool true) w6 (by simp [execOp, Act.eval, h53, go_sem]) ⟨_, rfl, Below.refl _ _, by rintro t' ⟨⟩; rfl⟩
          | n + 20, ho => simp at ho
        · intro f w20 hb20 hv
          have h4 := hv 4 (by decide)
          simp only [VOk] at h4
          have HB20 := Go.Lib.hid (HB7.out.trans (hb20.mono HB7.out.size))
          clear hv hb20 HX6 HB7 HC8
          unfold putAll
          simp only [List.foldl]
          simp only [h4]
          go_simp
          go_wp2_with fail
          go_ret
          exact ⟨rfl, HB20.out⟩
    · have hbe := hem kb hb
      have hab' : (ka.toList == ByteArray.toList ⟨#[]⟩) = false := by rw [hz0]; exact hab
      have hbb' : (kb.toList == ByteArray.toList ⟨#[]⟩) = true := by rw [hz0, hbe]; rfl
      go_wp2_with fail
      go_ret
      exact ⟨rfl, HB.out⟩
  · have hae := hem ka ha
    have hab' : (ka.toList == ByteArray.toList ⟨#[]⟩) = true := by rw [hz0, hae]; rfl
    go_wp2_with fail
    go_ret
    exact ⟨rfl, HB.out⟩

/-! ### THE ROW's STEP: WRITTEN OUT: LEAVE IT -/
set_option maxRecDepth 100000 in
theorem lifted (os : Os) (started : os.Started) (H : Type) (enc : TypeId × Value → H) :
    ReturnsInHanded {} Try.checked os 6 .any (Rows.orderKeysSpec.pre6 enc Try.prog Try.f6 Rows.orderKeysRow.domain false) (Rows.orderKeysSpec.post enc Try.prog Try.f6 false true false false) := by
  refine returnsInHanded_of_change (C := Try.checked) own started (by kernel_rfl) Try.func6
    (ChangeSpec.witness6 (enc := enc) (C := Try.checked) false ⟨#[], #[.string ByteArray.empty, .string ByteArray.empty], []⟩ 8 (by kernel_rfl) (by kernel_rfl) (by kernel_rfl) (by kernel_rfl)) ?_
  intro W base args ds gs before hval0 hW hcnd _
  have hval : ∀ (j : Nat) t v, Try.f6.params[j]? = some t → args[j]? = some v → Value.okWide Try.prog W .any base t v := hval0
  have hW' := hW
  obtain ⟨p, q, hA0, hV, rfl, hfz, hnd⟩ := hW
  have hA : DataW.TrodAll enc Try.prog W 0 (fun _ => true) true Try.f6.params.toList args.toList ds p := hA0
  rw [Try.params6] at hA hval
  obtain ⟨v0, vs0, d0, ds0, p0, q0, hargs, rfl, rfl, h0, r0⟩ := trodAll_cons hA
  obtain ⟨v1, vs1, d1, ds1, p1, q1, rfl, rfl, rfl, h1, r1⟩ := trodAll_cons r0
  obtain ⟨rfl, rfl, rfl⟩ := trodAll_nil r1
  obtain rfl : args = #[v0, v1] := by cases args; simp_all
  obtain ⟨rfl, rfl⟩ := trodVars_none hV
  obtain ⟨a0, rfl, rfl, rfl, w0⟩ := open_string Try.underlying9 (hval 0 9 v0 rfl rfl) h0
  obtain ⟨a1, rfl, rfl, rfl, w1⟩ := open_string Try.underlying9 (hval 1 9 v1 rfl rfl) h1
  clear hA0 hval0
  refine (walk a0 a1 w0 w1 W).mono fun e W' ⟨he, hg⟩ => ?_
  subst he
  exact ⟨_, rfl, _, _, _, [], _, [], hW', (trodAll_cons_mk (shut_bool Try.underlying4 _) trodAll_mk0), (trodAll_cons_mk (shut_string Try.underlying9 w0) (trodAll_cons_mk (shut_string Try.underlying9 w1) trodAll_mk0)), rfl, hg.frame _, fun h => by cases h⟩

theorem over : Rows.orderKeysRow.holds Try.pinned (OpenSpec.ofChange Rows.orderKeysSpec) :=
  OpenClaim.holds_of_wide 6 Try.f6 rfl rfl rfl rfl rfl rfl rfl ⟨rfl, rfl, rfl, rfl, rfl⟩ rfl rfl rfl rfl rfl (by kernel_rfl) Try.func6 (by kernel_rfl)
    (of_decide_eq_true (by kernel_rfl)) (by unfold Func.isWrapper; first | (rw [if_pos (by decide +kernel)]; kernel_rfl) | (rw [if_neg (by decide +kernel)]; exact ⟨rfl, rfl⟩))
    (fun os started H enc _ => lifted os started H enc)

/-- ████ THE STATEMENT ████ -/
theorem proved : Rows.OrderKeysSaid :=
  over
#print axioms proved
end Go.Proofs.Ytgalppnpmfpdbaa.orderKeys
