/-
  Package value: contract of Of.
  Package key: contract of May.
  Package record: contracts of valMay, May, Eq.
  Package record: contract of fresh.
  Package fresh: contract of Rec.
  Stage 19: order.List.
  Stage 19: order.mayLie, twice.
  Stage 19: order.twice, May.
-/
import Derived.Test.YtgalppnpmfpdbaaM08
import Derived.Test.YtgalppnpmfpdbaaM03
import Derived.Test.YtgalppnpmfpdbaaM01
import Derived.Test.YtgalppnpmfpdbaaM04
import Derived.Test.YtgalppnpmfpdbaaM07
import Derived.Deep.DeepCutAuto
import Derived.LoopTactic
import Derived.Test.YtgalppnpmfpdbaaM06
import Derived.BigQuiet
namespace Go.Proofs.Ytgalppnpmfpdbaa
open Go.RowKit

/-- Two blocks of its own, whatever was made later. -/
theorem two_kept (w : World) (o1 o2 : Obj) (w1 : World) (hb : Below ((w.alloc o1).alloc o2).heap.size ((w.alloc o1).alloc o2) w1) :
    w1.heap[w.heap.size]? = some o1 ∧ w1.heap[w.heap.size + 1]? = some o2 ∧ Below w.heap.size w w1 := by
  have hlt0 : w.heap.size < ((w.alloc o1).alloc o2).heap.size := (Array.getElem?_eq_some_iff.1 (two_first w o1 o2)).1
  have hlt1 : w.heap.size + 1 < ((w.alloc o1).alloc o2).heap.size := (Array.getElem?_eq_some_iff.1 (heap_alloc2_new w o1 o2)).1
  exact ⟨(hb.block _ hlt0).trans (two_first w _ _), (hb.block _ hlt1).trans (heap_alloc2_new w _ _), (below_two w o1 o2).trans (hb.mono (below_two w _ _).size)⟩

/-- A row and one more are what is answered. -/
theorem results_row_one {P : Program} {fn : Func} {p u : Tmp} {ty : TypeId} (h : fn.results = #[.cell p ty, .tmp u]) (tmps : Array Value) (w : World) (g : Nat) (t : TypeId) (cs : Array Value) (fr : Nat × Nat) (d : TypeDesc)
    (hp : tmps.getD p undef = .pointer (some ⟨g, 0, none⟩)) (hg : w.heap[g]? = some (.cells cs t fr))
    (hu : P.underlying ty = some d) (hd : (match d with | .struct _ | .array _ _ => true | _ => false) = true) (hi : (P.info? ty).map (·.size) = some cs.size) :
    (results fn tmps).run P w = .ok (.tuple #[.agg cs, tmps.getD u undef]) w := by
  have hp' : tmps[p]?.getD undef = .pointer (some ⟨g, 0, none⟩) := by simpa using hp
  simp only [results, h]
  simp [Result.andThen, hp', asAddr, run_loadVar_row w g t ty cs fr d hg hu hd hi]

theorem vi_one (x : VI) : x.v.oneCell' = true := by cases x <;> rfl
theorem store_vi (x : VI) (W : World) : (store ⟨W.heap.size, 0, none⟩ x.v).run Try.prog (W.alloc (.cells #[.nilIface] 123)) = .ok () (W.alloc (.cells #[x.v] 123)) := by
  cases x <;> simp [VI.v, go_sem]

/-- What 'Of' answers. -/
theorem ret_of_at {w w0 : World} {tmps : Array Value} {x : VI} {e : Int} {g : Nat} {fr : Nat × Nat} {v : Value}
    (hp : tmps.getD 2 undef = .pointer (some ⟨g, 0, none⟩)) (hg : w.heap[g]? = some (.cells #[x.v] 123 fr)) (h3 : tmps.getD 3 undef = .int .i64 e)
    (hr : .tuple #[x.val, .int .i64 e] = v) (hb : Below w0.heap.size w0 w) : bodyPost Try.prog Try.f85 (fun e w' => e = .returned v ∧ Below w0.heap.size w0 w') Exit.ret { tmps := tmps, defers := [] } w := by
  subst hr
  have h := results_row_one (P := Try.prog) (fn := Try.f85) (p := 2) (u := 3) (ty := 123) rfl tmps w g 123 #[x.v] fr _ hp hg Try.underlying123 rfl (by kernel_rfl)
  rw [h3] at h
  exact bodyPost_ret h rfl ⟨rfl, hb⟩

def ofV (k n : Int) (s : ByteArray) : Value := .tuple #[(ofR k n s).val, .int .i64 (if mayR k n s then 0 else 1)]

theorem of_bad {k n : Int} {s : ByteArray} (h : mayR k n s = false) : ofV k n s = .tuple #[VI.none.val, .int .i64 1] := by simp [ofV, ofR, h]
theorem of_num {n : Int} {s : ByteArray} (h : mayR 1 n s = true) : ofV 1 n s = .tuple #[(VI.num n).val, .int .i64 0] := by simp [ofV, ofR, h]
theorem of_text {n : Int} {s : ByteArray} (h : mayR 2 n s = true) : ofV 2 n s = .tuple #[(VI.text s).val, .int .i64 0] := by simp [ofV, ofR, h]

set_option maxRecDepth 100000 in
theorem vof_c (k n : Int) (s : ByteArray) (w : World) : Calls Try.prog 85 #[rawV k n s] w fun e w' => e = .returned (ofV k n s) ∧ Below w.heap.size w w' := by
  by_cases h1 : k = 1
  · subst h1
    by_cases h2 : s = ⟨#[]⟩
    · subst h2
      have hv := Go.Lib.hid (of_num (n := n) (s := ⟨#[]⟩) (by unfold mayR; simp))
      unfold rawV
      go_enter Try.func85, Try.ntmps85
      go_wp2_with fail
      exact ret_of_at (x := .num n) rfl (heap_alloc2_new ..) rfl hv.out.symm (below_two ..)
    · have h3 : Hid (mayR 1 n s = false) := by
        unfold Hid mayR
        rw [if_pos rfl, ByteArray.toList_eq]
        cases hl : s.data.toList with
        | nil => exact absurd (ByteArray.ext (Array.toList_inj.1 (by simpa using hl))) h2
        | cons a l => rfl
      have hv := Go.Lib.hid (of_bad h3.out)
      have h4 : (s.toList == []) = false := by
        have := h3.out
        unfold mayR at this
        rw [if_pos rfl] at this
        rw [← this]
        cases s.toList <;> rfl
      clear h3
      unfold rawV
      go_enter Try.func85, Try.ntmps85
      go_wp2_with fail
      exact ret_of_at (x := .none) rfl (heap_alloc2_new ..) rfl hv.out.symm (below_two ..)
  by_cases h2 : k = 2
  · subst h2
    by_cases h3 : n = 0
    · subst h3
      have C1 := Go.Lib.hid fun W => textMay_c s W
      have hv : Hid (ofV 2 0 s = if (decide (s.size ≤ 24) && wellB (toks (bl s))) = true then .tuple #[(VI.text s).val, .int .i64 0] else .tuple #[VI.none.val, .int .i64 1]) := by
        unfold Hid
        split
        · rename_i h
          exact of_text (by unfold mayR; simpa using h)
        · rename_i h
          exact of_bad (by unfold mayR; simpa using h)
      have hs : Hid ((decide (s.size ≤ 24) && wellB (toks (bl s))) = true → s.size ≤ 24) := by
        unfold Hid
        intro h
        rw [Bool.and_eq_true, decide_eq_true_eq] at h
        exact h.1
      generalize (decide (s.size ≤ 24) && wellB (toks (bl s))) = t at *
      unfold rawV
      go_enter Try.func85, Try.ntmps85
      go_wp2_with fail
      refine (C1.out _).mono ?_
      rintro e w1 ⟨rfl, hb1⟩
      obtain ⟨hA, hB, hbb⟩ := two_kept _ _ _ _ hb1
      have HB := Go.Lib.hid hB
      have x2 := cell_of_row w1 w.heap.size 2 _ _ _ hA
      simp only [List.getElem?_toArray, List.getElem?_cons_zero, List.getElem?_cons_succ] at x2
      clear hB hA hb1
      cases t with
      | true =>
        have hv2 := Go.Lib.hid (hv.out.trans (if_pos rfl)).symm
        have C2 := Go.Lib.hid fun W => clone_c s W (by have := hs.out rfl; omega)
        clear hs
        go_wp2_with fail
        refine (C2.out _).mono ?_
        rintro e w2 ⟨rfl, hb2⟩
        have hlt : w.heap.size + 1 < w1.heap.size := (Array.getElem?_eq_some_iff.1 HB.out).1
        have HB2 := Go.Lib.hid ((hb2.block _ hlt).trans HB.out)
        have hbb2 := hbb.trans (hb2.mono hbb.size)
        clear hb2 hlt x2 HB hbb
        go_wp2_with (first
          | (with_reducible show wpList _ _ _ (⟨none, Op.store 123 (.tmp 2) (.tmp 35), _, _, _, _⟩ :: _) _ _; go_loud (refine wpList_store_row rfl 123 (.tmp 2) (.tmp 35) rfl (w.heap.size + 1) #[.iface 133 (.string s)] rfl rfl 123 _ HB2.out (by kernel_rfl) rfl (by simp [Value.oneCell']) ?_))
          | fail)
        exact ret_of_at (x := .text s) rfl (setRow_heap _ _ _ _ _ (0, 0) HB2.out) rfl hv2.out (setRow_below _ hbb2 (by omega))
      | false =>
        have hv2 := Go.Lib.hid (hv.out.trans (if_neg (by decide))).symm
        clear x2 hs
        go_wp2_with (first
          | (with_reducible show wpList _ _ _ (⟨none, Op.store 123 (.tmp 2) (.tmp 36), _, _, _, _⟩ :: _) _ _; go_loud (refine wpList_store_row rfl 123 (.tmp 2) (.tmp 36) rfl (w.heap.size + 1) #[.nilIface] rfl rfl 123 _ HB.out (by kernel_rfl) rfl (by simp [Value.oneCell']) ?_))
          | fail)
        exact ret_of_at (x := .none) rfl (setRow_heap _ _ _ _ _ (0, 0) HB.out) rfl hv2.out (setRow_below _ hbb (by omega))
    · have hv := Go.Lib.hid (of_bad (k := 2) (n := n) (s := s) (by unfold mayR; simp [h3]))
      have h3' : (n == 0) = false := by simp [h3]
      unfold rawV
      go_enter Try.func85, Try.ntmps85
      go_wp2_with fail
      exact ret_of_at (x := .none) rfl (heap_alloc2_new ..) rfl hv.out.symm (below_two ..)
  · have hv := Go.Lib.hid (of_bad (k := k) (n := n) (s := s) (by unfold mayR; simp [h1, h2]))
    have h1' : (k == 1) = false := by simp [h1]
    have h2' : (k == 2) = false := by simp [h2]
    unfold rawV
    go_enter Try.func85, Try.ntmps85
    go_wp2_with fail
    exact ret_of_at (x := .none) rfl (heap_alloc2_new ..) rfl hv.out.symm (below_two ..)

end Go.Proofs.Ytgalppnpmfpdbaa

namespace Go.Proofs.Ytgalppnpmfpdbaa
open Go.RowKit Go.Op

set_option maxRecDepth 100000 in
theorem kmayL_c (s : ByteArray) (w : World) (hm : s.size ≤ maxLen) : Calls Try.prog 75 #[.string s] w fun e w' => e = .returned (.bool (mayK s)) ∧ Below w.heap.size w w' := by
  unfold maxLen at hm
  have hb := Below.refl w.heap.size w
  by_cases h1 : 1 ≤ s.size
  · by_cases h2 : s.size ≤ 16
    · go_enter Try.func75, Try.ntmps75
      go_wp2
      go_ret
      exact ⟨ret_of (congrArg Value.bool (by unfold mayK; simp [h1, h2]; try omega)), hb⟩
    · go_enter Try.func75, Try.ntmps75
      go_wp2
      go_ret
      exact ⟨ret_of (congrArg Value.bool (by unfold mayK; simp [h2]; try omega)), hb⟩
  · go_enter Try.func75, Try.ntmps75
    go_wp2
    go_ret
    exact ⟨ret_of (congrArg Value.bool (by unfold mayK; simp [h1]; try omega)), hb⟩

theorem kmay_c (s : ByteArray) (w : World) (hm : s.size ≤ 1000000) : Calls Try.prog 75 #[.string s] w fun e w' => e = .returned (.bool (mayK s)) ∧ Below w.heap.size w w' :=
  kmayL_c s w (by unfold maxLen; omega)

end Go.Proofs.Ytgalppnpmfpdbaa

namespace Go.Proofs.Ytgalppnpmfpdbaa
open Go.RowKit Go.Op

theorem ite_zero (k n : Int) (s : ByteArray) (W : World) :
    (if k = 0 then
      if n = 0 then
        if s.toList = [] then Result.ok (Next.value (Value.bool true)) W
        else Result.ok (Next.value (Value.bool false)) W
      else Result.ok (Next.value (Value.bool false)) W
    else Result.ok (Next.value (Value.bool false)) W) =
    Result.ok (Next.value (Value.bool (k == 0 && n == 0 && s.toList.isEmpty))) W := by
  by_cases h1 : k = 0 <;> by_cases h2 : n = 0 <;> by_cases h3 : s.toList = [] <;> simp [h1, h2, h3]

set_option maxRecDepth 100000 in
theorem valmay_c (key : ByteArray) (gone : Bool) (k n : Int) (s : ByteArray) (w : World) :
    Calls Try.prog 77 #[recV key gone k n s] w fun e w' => e = .returned (.bool (if gone then k == 0 && n == 0 && s.toList.isEmpty else mayR k n s)) ∧ Below w.heap.size w w' := by
  unfold recV
  have hb1 := below_one w (.cells #[.string key, .bool gone, .int .i64 k, .int .i64 n, .string s] 28)
  cases gone with
  | true =>
    have hz := fun W => ite_zero k n s W
    rw [if_pos rfl]
    generalize (k == 0 && n == 0 && s.toList.isEmpty) = t at *
    go_enter Try.func77, Try.ntmps77
    go_wp2_with fail
    go_ret
    exact ⟨rfl, hb1⟩
  | false =>
    rw [if_neg (by decide)]
    have C := Go.Lib.hid fun W => vof_c k n s W
    unfold ofV rawV VI.val at C
    obtain ⟨t, ht⟩ : ∃ t, t = mayR k n s := ⟨_, rfl⟩
    rw [← ht] at C ⊢
    clear ht
    go_enter Try.func77, Try.ntmps77
    go_wp2_with fail
    refine (C.out _).mono ?_
    rintro e w1 ⟨rfl, hb2⟩
    generalize ofR k n s = x at *
    have hst := store_vi x
    have hbb := hb1.trans (hb2.mono hb1.size)
    have hb3 := hbb.trans ((below_one w1 (.cells #[x.v] 123)).mono hbb.size)
    cases t with
    | true =>
      rw [if_pos rfl]
      go_wp2_with fail
      go_ret
      exact ⟨rfl, hb3⟩
    | false =>
      rw [if_neg (by decide)]
      go_wp2_with fail
      go_ret
      exact ⟨rfl, hb3⟩

set_option maxRecDepth 100000 in
theorem pmay_c (key : ByteArray) (gone : Bool) (k n : Int) (s : ByteArray) (w : World) (hk : key.size ≤ maxLen) (_hm : s.size ≤ maxLen) :
    Calls Try.prog 58 #[recV key gone k n s] w fun e w' => e = .returned (.bool (mayRec key gone k n s)) ∧ Below w.heap.size w w' := by
  have C1 := Go.Lib.hid fun W => kmayL_c key W hk
  have c2 := fun W => valmay_c key gone k n s W
  unfold recV at c2 ⊢
  have hv : mayRec key gone k n s = (mayK key && (if gone then k == 0 && n == 0 && s.toList.isEmpty else mayR k n s)) := rfl
  rw [hv]
  generalize (if gone then k == 0 && n == 0 && s.toList.isEmpty else mayR k n s) = t at *
  generalize mayK key = m at *
  have C2 := Go.Lib.hid c2
  clear c2 hv
  have hb1 := below_one w (.cells #[.string key, .bool gone, .int .i64 k, .int .i64 n, .string s] 28)
  have hA := heap_alloc_new w (.cells #[.string key, .bool gone, .int .i64 k, .int .i64 n, .string s] 28)
  cases m with
  | false =>
    go_enter Try.func58, Try.ntmps58
    go_wp2_with fail
    refine (C1.out _).mono ?_
    rintro e w1 ⟨rfl, hb2⟩
    have hbb := hb1.trans (hb2.mono hb1.size)
    go_wp2_with fail
    go_ret
    exact ⟨rfl, hbb⟩
  | true =>
    go_enter Try.func58, Try.ntmps58
    go_wp2_with fail
    refine (C1.out _).mono ?_
    rintro e w1 ⟨rfl, hb2⟩
    have hbb := hb1.trans (hb2.mono hb1.size)
    have hA := row_kept hA hb2
    obtain ⟨x0, x1, x2, x3, x4⟩ := row5 hA
    go_wp2_with fail
    refine (C2.out _).mono ?_
    rintro e w2 ⟨rfl, hb3⟩
    have hbb := hbb.trans (hb3.mono hbb.size)
    go_wp2_with fail
    go_ret
    exact ⟨by simp, hbb⟩

theorem ite_eqRec (key1 : ByteArray) (gone1 : Bool) (k1 n1 : Int) (s1 key2 : ByteArray) (gone2 : Bool) (k2 n2 : Int) (s2 : ByteArray) (W : World) :
    (if key1.toList = key2.toList then
      if gone1 = gone2 then
       if k1 = k2 then
        if n1 = n2 then
         if s1.toList = s2.toList then Result.ok (Next.value (Value.bool true)) W
         else Result.ok (Next.value (Value.bool false)) W
        else Result.ok (Next.value (Value.bool false)) W
       else Result.ok (Next.value (Value.bool false)) W
      else Result.ok (Next.value (Value.bool false)) W
    else Result.ok (Next.value (Value.bool false)) W) =
    Result.ok (Next.value (Value.bool (eqRec key1 gone1 k1 n1 s1 key2 gone2 k2 n2 s2))) W := by
  unfold eqRec eqR
  by_cases h0 : key1.toList = key2.toList <;> by_cases h4 : gone1 = gone2 <;> by_cases h1 : k1 = k2 <;> by_cases h2 : n1 = n2 <;> by_cases h3 : s1.toList = s2.toList <;> simp [h0, h1, h2, h3, h4]

end Go.Proofs.Ytgalppnpmfpdbaa

namespace Go.Proofs.Ytgalppnpmfpdbaa
open Go.RowKit Go.Op

/-- Storing what stands there already leaves the world as it is. -/
theorem setCell_id {w : World} {b o : Nat} {cs : Array Value} {t : TypeId} {fr : Nat × Nat} {v : Value} (hg : w.heap[b]? = some (.cells cs t fr)) (hv : cs[o]? = some v) : w.setCell ⟨b, o, none⟩ v = w := by
  obtain ⟨hb, hg⟩ := Array.getElem?_eq_some_iff.1 hg
  obtain ⟨ho, hv⟩ := Array.getElem?_eq_some_iff.1 hv
  have hset : cs.setIfInBounds o v = cs := by
    rw [← hv]
    apply Array.ext
    · simp
    · intro i h1 h2
      rw [Array.getElem_setIfInBounds]
      split
      · rename_i h; subst h; rfl
      · rfl
  have : (w.setCell ⟨b, o, none⟩ v).heap = w.heap := by
    unfold World.setCell
    apply Array.ext
    · simp
    · intro i h1 h2
      simp only [Array.getElem_modify]
      by_cases hi : b = i
      · subst hi
        rw [if_pos rfl, hg]
        simp [hset]
      · rw [if_neg hi]
  have e : w.setCell ⟨b, o, none⟩ v = { w with heap := (w.setCell ⟨b, o, none⟩ v).heap } := rfl
  rw [e, this]

end Go.Proofs.Ytgalppnpmfpdbaa

namespace Go.Proofs.Ytgalppnpmfpdbaa
open Go.RowKit Go.Op

theorem ret_frec_at {w w0 : World} {tmps : Array Value} {key : ByteArray} {gone : Bool} {k n : Int} {s : ByteArray} {g : Nat} {fr : Nat × Nat}
    (hp : tmps.getD 2 undef = .pointer (some ⟨g, 0, none⟩)) (hg : w.heap[g]? = some (.cells #[.string key, .bool gone, .int .i64 k, .int .i64 n, .string s] 28 fr)) (hb : Below w0.heap.size w0 w) :
    bodyPost Try.prog Try.f41 (fun e w' => e = .returned (.agg #[.string key, .bool gone, .int .i64 k, .int .i64 n, .string s]) ∧ Below w0.heap.size w0 w') Exit.ret { tmps := tmps, defers := [] } w :=
  bodyPost_ret (results_cell_row (P := Try.prog) (fn := Try.f41) (p := 2) (ty := 28) rfl tmps w g 28 #[.string key, .bool gone, .int .i64 k, .int .i64 n, .string s] fr _ hp hg Try.underlying28 rfl (by kernel_rfl)) rfl ⟨rfl, hb⟩

set_option maxRecDepth 100000 in
theorem frec_c (key : ByteArray) (gone : Bool) (k n : Int) (s : ByteArray) (w : World) (hk : key.size ≤ 1000000) (hs : s.size ≤ 1000000) :
    Calls Try.prog 41 #[recV key gone k n s] w fun e w' => e = .returned (recV key gone k n s) ∧ Below w.heap.size w w' := by
  have C1 := Go.Lib.hid fun W => clone_c key W (by omega)
  have C2 := Go.Lib.hid fun W => clone_c s W (by omega)
  clear hk hs
  unfold recV
  have hbb := below_two w (.cells #[.string key, .bool gone, .int .i64 k, .int .i64 n, .string s] 28) (.cells #[.string ⟨#[]⟩, .bool false, .int .i64 0, .int .i64 0, .string ⟨#[]⟩] 28)
  have hA := two_first w (.cells #[.string key, .bool gone, .int .i64 k, .int .i64 n, .string s] 28) (.cells #[.string ⟨#[]⟩, .bool false, .int .i64 0, .int .i64 0, .string ⟨#[]⟩] 28)
  have hB := heap_alloc2_new w (.cells #[.string key, .bool gone, .int .i64 k, .int .i64 n, .string s] 28) (.cells #[.string ⟨#[]⟩, .bool false, .int .i64 0, .int .i64 0, .string ⟨#[]⟩] 28)
  go_enter Try.func41, Try.ntmps41
  go_wp2_with fail
  refine (C1.out _).mono ?_
  rintro e w1 ⟨rfl, hc⟩
  have hA := row_kept hA hc
  have hB := row_kept hB hc
  have hbb := hbb.trans (hc.mono hbb.size)
  obtain ⟨x0, x1, x2, x3, x4⟩ := row5 hA
  have hf := fun o => frozen_of_row w1 w.heap.size o _ _ hA
  have hi0 := setCell_id (o := 0) (v := .string key) hA rfl
  have hi4 := setCell_id (o := 4) (v := .string s) hA rfl
  clear C1 hc
  go_wp2_with fail
  refine (C2.out _).mono ?_
  rintro e w2 ⟨rfl, hc⟩
  have hA := row_kept hA hc
  have hB := row_kept hB hc
  have hbb := hbb.trans (hc.mono hbb.size)
  clear x0 x1 x2 x3 x4 hf hi0 hi4 C2
  obtain ⟨x0, x1, x2, x3, x4⟩ := row5 hA
  have hf := fun o => frozen_of_row w2 w.heap.size o _ _ hA
  have hi0 := setCell_id (o := 0) (v := .string key) hA rfl
  have hi4 := setCell_id (o := 4) (v := .string s) hA rfl
  have HB := Go.Lib.hid hB
  clear hB
  go_wp2_with (first
    | (with_reducible show wpList _ _ _ (⟨none, Op.store 28 (.tmp 2) (.tmp 13), _, _, _, _⟩ :: _) _ _; go_loud (refine wpList_store_row rfl 28 (.tmp 2) (.tmp 13) rfl (w.heap.size + 1) #[.string key, .bool gone, .int .i64 k, .int .i64 n, .string s] rfl rfl 28 _ HB.out (by kernel_rfl) rfl (rec_cells_one ..) ?_))
    | fail)
  exact ret_frec_at rfl (setRow_heap _ _ _ _ _ (0, 0) HB.out) (setRow_below _ hbb (by omega))

end Go.Proofs.Ytgalppnpmfpdbaa

namespace Go.Proofs.Ytgalppnpmfpdbaa
open Go.RowKit

/-- What a walk over a table's rows asks, at letters. -/
structure TabV (TT : TabT) (TL : List Value) (RL : Nat → Array Value) (Z : Array Value) : Prop where
  size : (Try.prog.info? 38).map (·.size) = some TL.length
  row : ∀ b : Nat, b < 8 → ∀ W, (Instr.index 38 (.agg TL.toArray) (.int .i64 (b : Int))).run Try.prog W = .ok (.agg (RL b)) W
  slot : ∀ b s : Nat, s < 4 → ∀ W, (Instr.index 36 (.agg (RL b)) (.int .i64 (s : Int))).run Try.prog W = .ok (.agg (enc6 (TT (4 * b + s))).toArray) W
  rsize : ∀ b, (Try.prog.info? 36).map (·.size) = some (RL b).size
  zsize : ∀ b, Z.size = (RL b).size
  rone : ∀ b, (RL b).all (fun x => x.oneCell') = true
  zero : ∀ W, (zeroValue 36).run Try.prog W = .ok (.agg Z) W
set_option maxRecDepth 100000 in
theorem tabV (TT : TabT) : TabV TT (tabL TT 32) (fun b => (rowL TT b).toArray) (rowL (fun _ => (false, nullR)) 0).toArray :=
  ⟨sizeTabO TT, fun b hb W => index_row TT b hb W, fun b s hs W => index_slot TT b s hs W, fun b => sizeRow4 TT b, fun b => by rw [List.size_toArray, List.size_toArray, rowL_len, rowL_len], fun b => rowL_one TT b, zero_row4⟩

theorem slot6 (y : Bool × RecT) : (enc6 y).toArray = #[.bool y.1, .string y.2.1, .bool y.2.2.1, .int .i64 y.2.2.2.1, .int .i64 y.2.2.2.2.1, .string y.2.2.2.2.2] := rfl

set_option maxHeartbeats 4000000 in
set_option maxRecDepth 100000 in
theorem olist_c (TT : TabT) (w : World) (hs : ∀ q, q < 32 → (TT q).2.1.size ≤ 1000 ∧ (TT q).2.2.2.2.2.size ≤ 1000) :
    Calls Try.prog 17 #[.agg (tabL TT 32).toArray] w fun e w' => ∃ v' l', e = .returned v' ∧ l'.Perm (recsT TT 32) ∧ RiseL l' ∧ OwnRec w' w.heap.size v' l' ∧ Below w.heap.size w w' := by
  have HRG := Go.Lib.hid (TO.new w TT).range
  have HB := Go.Lib.hid (below_one w (.cells (tabL TT 32).toArray 38))
  have HS := Go.Lib.hid hs
  have HV := Go.Lib.hid (tabV TT)
  clear hs
  generalize tabL TT 32 = TL at *
  generalize (fun b => (rowL TT b).toArray) = RL at *
  generalize (rowL (fun _ => (false, nullR)) 0).toArray = Z at *
  obtain ⟨g, hg⟩ : ∃ g, g = w.heap.size := ⟨_, rfl⟩
  have HG := Go.Lib.hid hg
  rw [← hg] at HRG HB ⊢
  clear hg
  have hz := HV.out.zero
  go_enter Try.func17, Try.ntmps17
  go_upto_region 2 with (fail)
  rw [← HG.out]
  generalize w.alloc (.cells TL.toArray 38) = w1 at *
  go_wp2_with (first
    | (with_reducible show wpList _ _ _ (⟨some 8, _, _, _, _, _⟩ :: _) _ _; go_loud (refine wpList_load_mid rfl 38 (.tmp 1) rfl g 0 rfl TL _ HRG.out Try.underlying38 rfl HV.out.size ?_))
    | fail)
  go_loopw [3, 9] (fun lv bv wr => ∃ (b : Nat) (u : Value), u = lv ∧ b ≤ 8 ∧ bv = .int .i64 (b : Int) ∧ Hid (OwnRec wr g u (recsT TT (4 * b))) ∧ Hid (Below g w wr)) (fun _ bv _ => 8 - (intOf bv).toNat)
  case atStart => exact ⟨0, _, rfl, by omega, rfl, Go.Lib.hid (OwnRec.nil _ _), HB⟩
  case round =>
    obtain ⟨b, u, rfl, hb, rfl, HO, HB⟩ := hrel
    by_cases hlt : b < 8
    · have hltI : (b : Int) < 8 := by omega
      have hix := HV.out.row b hlt
      have hgw : g ≤ wr.heap.size := by have := HB.out.size; have := HG.out; omega
      have hb2 := below_one wr (.cells Z 36)
      have HZ := Go.Lib.hid (heap_alloc_new wr (.cells Z 36))
      have HX := Go.Lib.hid (setRow_heap _ wr.heap.size _ (RL b) 36 (0, 0) HZ.out)
      have HB2 := Go.Lib.hid (setRow_below (RL b) hb2 (Nat.le_refl _))
      clear hb2
      go_upto_region 5 with (first
        | (with_reducible show wpList _ _ _ (⟨none, Op.store 36 (.tmp 5) (.tmp 11), _, _, _, _⟩ :: _) _ _; go_loud (refine wpList_store_row rfl 36 (.tmp 5) (.tmp 11) rfl wr.heap.size (RL b) rfl rfl 36 Z HZ.out (HV.out.rsize b) (HV.out.zsize b) (HV.out.rone b) ?_))
        | fail)
      have HO2 := Go.Lib.hid (HO.out.below HB2.out)
      have HB3 := Go.Lib.hid (HB.out.trans (HB2.out.mono hgw))
      obtain ⟨g2, hg2⟩ : ∃ g2, g2 = wr.heap.size := ⟨_, rfl⟩
      rw [← hg2] at HX HO2 HB3 ⊢
      clear hg2 HZ HB2 HO HB hix hz
      generalize (wr.alloc (.cells Z 36)).setRow g2 (RL b) = w2 at *
      go_wp2_with (first
        | (with_reducible show wpList _ _ _ (⟨some 12, _, _, _, _, _⟩ :: _) _ _; go_loud (refine wpList_load_row rfl 36 (.tmp 5) rfl g2 rfl 36 (RL b) (0, 0) _ HX.out Try.underlying36 rfl (HV.out.rsize b) ?_))
        | fail)
      go_loopw [3, 13] (fun lv sv wr => ∃ (s : Nat) (u : Value), u = lv ∧ s ≤ 4 ∧ sv = .int .i64 (s : Int) ∧ Hid (OwnRec wr g u (recsT TT (4 * b + s))) ∧ Hid (Below g w wr)) (fun _ sv _ => 4 - (intOf sv).toNat)
      case atStart => exact ⟨0, _, rfl, by omega, rfl, HO2, HB3⟩
      case round =>
        clear HO2 HB3 HX
        obtain ⟨s, u, rfl, hs4, rfl, HO, HB⟩ := hrel
        by_cases hslt : s < 4
        · have hsI : (s : Int) < 4 := by omega
          have hgw : g ≤ wr.heap.size := by have := HB.out.size; have := HG.out; omega
          have hix2 := HV.out.slot b s hslt
          rw [slot6] at hix2
          have hsz := HS.out (4 * b + s) (by omega)
          have HRN := Go.Lib.hid (show recsT TT (4 * b + (s + 1)) = recsT TT (4 * b + s) ++ (if (TT (4 * b + s)).1 then [(TT (4 * b + s)).2] else []) from recsT_succ TT (4 * b + s))
          have HRL := Go.Lib.hid (show (recsT TT (4 * b + s)).length ≤ 32 from by have := recsT_len TT (4 * b + s); omega)
          generalize recsT TT (4 * b + s) = RO at *
          generalize TT (4 * b + s) = y at *
          obtain ⟨hq, kx, gx, ax, nx, sx⟩ := y
          simp only [] at hix2 hsz HRN
          have hbA := below_one wr (.cells #[.bool hq, .string kx, .bool gx, .int .i64 ax, .int .i64 nx, .string sx] 35)
          have HX := Go.Lib.hid (heap_alloc_new wr (.cells #[.bool hq, .string kx, .bool gx, .int .i64 ax, .int .i64 nx, .string sx] 35))
          have HO2 := Go.Lib.hid (HO.out.below hbA)
          have HB2 := Go.Lib.hid (HB.out.trans (hbA.mono hgw))
          have CF := fun W => frec_c kx gx ax nx sx W (by omega) (by omega)
          unfold recV at CF
          have CF := Go.Lib.hid CF
          clear hbA hsz HO HB
          go_upto_region 8 with (fail)
          obtain ⟨g3, hg3⟩ : ∃ g, g = wr.heap.size := ⟨_, rfl⟩
          rw [← hg3] at HX ⊢
          clear hg3 hix2
          generalize wr.alloc (.cells #[.bool hq, .string kx, .bool gx, .int .i64 ax, .int .i64 nx, .string sx] 35) = w3 at *
          obtain ⟨x0, x1, x2, x3, x4, x5⟩ := row6 HX.out
          cases hq with
          | false =>
            simp only [Bool.false_eq_true, if_false, List.append_nil] at HRN
            have HE := HRN.out
            go_wp2_with fail
            exact ⟨⟨s + 1, _, rfl, by omega, by go_num, by rw [HE]; exact HO2, HB2⟩, by simp only [intOf]; omega⟩
          | true =>
            simp only [if_true] at HRN
            go_wp2_with fail
            refine (CF.out _).mono ?_
            rintro e w4 ⟨rfl, hc⟩
            have hb5 := below_one w4 (.cells #[.string kx, .bool gx, .int .i64 ax, .int .i64 nx, .string sx] 28)
            have hc5 := hc.trans (hb5.mono hc.size)
            have HO5 := Go.Lib.hid (HO2.out.below hc5)
            have HB5 := Go.Lib.hid (HB2.out.trans (hc5.mono (by have := HB2.out.size; have := HG.out; omega)))
            have HON := Go.Lib.hid (RS.one w4 (kx, gx, ax, nx, sx))
            simp only [] at HON
            clear hb5 hc hc5 CF x0 x1 x2 x3 x4 x5 HX HO2 HB2
            go_wp2_with (first
              | (with_reducible show wpList _ _ _ (⟨some 23, _, _, _, _, _⟩ :: _) _ _; go_loud (refine wpList_append_recs rfl (.tmp 18) (.tmp 22) rfl g u (.slice (some ⟨w4.heap.size, 0, none⟩) 1 1) RO [(kx, gx, ax, nx, sx)] rfl rfl HO5.out HON.out (by have := HRL.out; simp; omega) (by have := HB5.out.size; have := HG.out; omega) ?_); intro v6 w6 ho6 hg6)
              | fail)
            have HO6 := Go.Lib.hid (show OwnRec w6 g v6 (recsT TT (4 * b + (s + 1))) by rw [HRN.out]; exact ho6)
            have HB6 := Go.Lib.hid (HB5.out.grown hg6 (by have := HB5.out.size; have := HG.out; omega) (fun j hj => HO5.out.row j hj))
            clear ho6 hg6
            go_wp2_with fail
            exact ⟨⟨s + 1, _, rfl, by omega, by go_num, HO6, HB6⟩, by simp only [intOf]; omega⟩
        · obtain rfl : s = 4 := by omega
          go_wp2_with fail
          exact ⟨⟨b + 1, _, rfl, by omega, by go_num, HO, HB⟩, by simp only [intOf]; omega⟩
    · obtain rfl : b = 8 := by omega
      have CS := Go.Lib.hid (sortrecs_c wr g u (recsT TT 32) HO.out (by have := recsT_len TT 32; omega))
      have HBK := Go.Lib.hid (fun k hk => HO.out.row k hk)
      clear HO
      go_wp2_with fail
      refine CS.out.mono ?_
      rintro e w2 ⟨rfl, l', hp, hr, ho, hgr⟩
      have HF := Go.Lib.hid (And.intro hp (And.intro hr (And.intro ho (HB.out.grown hgr (by have := HB.out.size; have := HG.out; omega) HBK.out))))
      clear hp hr ho hgr CS
      go_wp2_with fail
      go_ret
      exact ⟨_, l', rfl, HF.out⟩
end Go.Proofs.Ytgalppnpmfpdbaa

namespace Go.Proofs.Ytgalppnpmfpdbaa
open Go.RowKit

/-- May y lie in bucket b? -/
def lieOk (b : Nat) (y : Bool × RecT) : Bool :=
  if y.1 then mayT y.2 && (b == firstN (hR y.2) || b == othN (firstN (hR y.2)) (tagN (hR y.2))) else decide (y.2 = nullR)

theorem isnull (kx : ByteArray) (gx : Bool) (ax nx : Int) (sx : ByteArray) : decide ((kx, gx, ax, nx, sx) = nullR) = eqRec kx gx ax nx sx ⟨#[]⟩ false 0 0 ⟨#[]⟩ := (eqRec_iff (kx, gx, ax, nx, sx) nullR).symm

set_option maxHeartbeats 4000000 in
set_option maxRecDepth 100000 in
theorem maylie_c (b : Nat) (hq : Bool) (kx : ByteArray) (gx : Bool) (ax nx : Int) (sx : ByteArray) (w : World) (h1 : kx.size ≤ 1000) (h2 : sx.size ≤ 1000) :
    Calls Try.prog 36 #[.agg #[.bool hq, .string kx, .bool gx, .int .i64 ax, .int .i64 nx, .string sx], .int .i64 (b : Int)] w fun e w' => e = .returned (.bool (lieOk b (hq, kx, gx, ax, nx, sx))) ∧ Below w.heap.size w w' := by
  have HX := Go.Lib.hid (heap_alloc_new w (.cells #[.bool hq, .string kx, .bool gx, .int .i64 ax, .int .i64 nx, .string sx] 35))
  have HB := Go.Lib.hid (below_one w (.cells #[.bool hq, .string kx, .bool gx, .int .i64 ax, .int .i64 nx, .string sx] 35))
  have CM := fun W => pmay_c kx gx ax nx sx W (by unfold maxLen; omega) (by unfold maxLen; omega)
  unfold recV at CM
  rw [show mayRec kx gx ax nx sx = mayT (kx, gx, ax, nx, sx) from rfl] at CM
  have CM := Go.Lib.hid CM
  have CH := Go.Lib.hid fun W => hof_k kx (hashS kx) rfl W (by omega)
  have CF := Go.Lib.hid fun W => hfirst_c (hashS kx) W (hashS_lt kx)
  have CT := Go.Lib.hid fun W => htag_c (hashS kx) W (hashS_lt kx)
  have HFL := Go.Lib.hid (first_lt (hashS kx))
  have HTL := Go.Lib.hid (tag_lt (hashS kx))
  have CO := fun W => hother_c (firstN (hashS kx) : Int) (tagN (hashS kx) : Int) W (by omega) (by have := HFL.out; omega) (by omega) (by have := HTL.out; omega)
  rw [otherI_nat HFL.out HTL.out] at CO
  have CO := Go.Lib.hid CO
  have HL := Go.Lib.hid (show lieOk b (hq, kx, gx, ax, nx, sx) = if hq then mayT (kx, gx, ax, nx, sx) && (b == firstN (hashS kx) || b == othN (firstN (hashS kx)) (tagN (hashS kx))) else decide ((kx, gx, ax, nx, sx) = nullR) from rfl)
  rw [isnull] at HL
  generalize lieOk b (hq, kx, gx, ax, nx, sx) = r at *
  clear h1 h2
  go_enter Try.func36, Try.ntmps36
  cases hq with
  | false =>
    simp only [Bool.false_eq_true, if_false] at HL
    clear CM CH CF CT CO HFL HTL
    have HE := HL.out
    unfold eqRec eqR at HE
    have HE := Go.Lib.hid HE
    clear HL
    go_wp2_with fail
    all_goals
      go_ret
      refine ⟨?_, below_one _ _⟩
      rw [HE.out]
      congr 2
      simp_all
  | true =>
    simp only [if_true] at HL
    go_wp2_with fail
    refine (CM.out _).mono ?_
    rintro e w1 ⟨rfl, hc⟩
    have HX1 := Go.Lib.hid (row_kept HX.out hc)
    have HB1 := Go.Lib.hid (HB.out.trans (hc.mono HB.out.size))
    obtain ⟨x0, x1, x2, x3, x4, x5⟩ := row6 HX1.out
    clear hc CM
    generalize mayT (kx, gx, ax, nx, sx) = m at *
    cases m with
    | false =>
      have HE := Go.Lib.hid (show r = false from by rw [HL.out]; rfl)
      obtain rfl := HE.out
      go_wp2_with fail
      go_ret
      exact ⟨rfl, HB1.out⟩
    | true =>
      rw [Bool.true_and] at HL
      go_wp2_with fail
      refine (CH.out _).mono ?_
      rintro e w2 ⟨rfl, hc⟩
      have HB2 := Go.Lib.hid (HB1.out.trans (hc.mono HB1.out.size))
      clear hc CH x0 x1 x2 x3 x4 x5 HX HX1 HB HB1
      go_wp2_with fail
      refine (CF.out _).mono ?_
      rintro e w3 ⟨rfl, rfl⟩
      generalize othN (firstN (hashS kx)) (tagN (hashS kx)) = fo at *
      generalize firstN (hashS kx) = ff at *
      generalize tagN (hashS kx) = ft at *
      generalize hashS kx = hx at *
      by_cases hbf : b = ff
      · have hbf1 : ((b : Int) == (ff : Int)) = true := beq_iff_eq.2 (by omega)
        have HE := Go.Lib.hid (show r = true from by rw [HL.out]; simp [hbf])
        obtain rfl := HE.out
        clear hbf
        go_wp2_with fail
        go_ret
        exact ⟨rfl, HB2.out⟩
      · have hbf1 : ((b : Int) == (ff : Int)) = false := beq_eq_false_iff_ne.2 (by omega)
        have HE := Go.Lib.hid (show r = (b == fo) from by rw [HL.out]; simp [hbf])
        clear hbf HL
        go_wp2_with fail
        refine (CT.out _).mono ?_
        rintro e w4 ⟨rfl, rfl⟩
        go_wp2_with fail
        refine (CO.out _).mono ?_
        rintro e w5 ⟨rfl, rfl⟩
        have hbo : ((b : Int) == (fo : Int)) = (b == fo) := by
          by_cases h : b = fo
          · subst h; simp
          · rw [beq_eq_false_iff_ne.2 h, beq_eq_false_iff_ne.2 (by omega)]
        obtain rfl := HE.out
        go_wp2_with fail
        go_ret
        exact ⟨rfl, HB2.out⟩
end Go.Proofs.Ytgalppnpmfpdbaa

namespace Go.Proofs.Ytgalppnpmfpdbaa
open Go.RowKit

def keysB (l : List RecT) : Bool := decide ((l.map keyR).Nodup)
theorem keysB_iff {l : List RecT} : keysB l = true ↔ KeysOk l := by unfold keysB KeysOk; exact decide_eq_true_iff
theorem keysB_perm {l m : List RecT} (h : l.Perm m) : keysB l = keysB m := by
  unfold keysB
  exact decide_eq_decide.2 (h.map keyR).nodup_iff
theorem keys_twice {l : List RecT} (_hr : RiseL l) (p : Nat) (hp : p + 1 < l.length) (he : keyR l[p] = keyR l[p + 1]) : keysB l = false := by
  rw [Bool.eq_false_iff]
  intro hc
  have := List.pairwise_iff_getElem.1 (List.pairwise_map.1 (keysB_iff.1 hc)) p (p + 1) (by omega) hp (by omega)
  exact this he
theorem keys_once {l : List RecT} (hr : RiseL l) (h : ∀ p (hp : p + 1 < l.length), keyR l[p] ≠ keyR l[p + 1]) : keysB l = true := by
  rw [keysB_iff]
  unfold KeysOk
  refine List.pairwise_map.2 (List.pairwise_iff_getElem.2 ?_)
  intro i j hi hj hij e
  unfold RiseL at hr
  have hr := List.pairwise_iff_getElem.1 hr
  refine h i (by omega) ?_
  rcases Nat.lt_or_ge (i + 1) j with h2 | h2
  · have r1 := hr i (i + 1) hi (by omega) (by omega)
    have r2 := hr (i + 1) j (by omega) hj h2
    rw [← e] at r2
    rcases less_tri (keyR l[i]) (keyR l[i + 1]) with h5 | h5 | h5
    · rw [h5] at r2; cases r2
    · exact h5
    · rw [h5] at r1; cases r1
  · obtain rfl : j = i + 1 := by omega
    exact e

set_option maxHeartbeats 2000000 in
set_option maxRecDepth 100000 in
theorem twice_c (v : Value) (l : List RecT) (w : World) (hv : RS w v l) (hr : RiseL l) (hl : l.length ≤ 1000) :
    Calls Try.prog 37 #[v] w fun e w' => e = .returned (.bool (!keysB l)) ∧ Below w.heap.size w w' := by
  obtain ⟨a, cap, rfl, hm⟩ := hv.form
  have HR := Go.Lib.hid hv
  have HK := Go.Lib.hid hr
  have HBR := Go.Lib.hid (Below.refl w.heap.size w)
  have HYES := Go.Lib.hid (fun p (hp : p + 1 < l.length) he => keys_twice hr p hp he)
  have HNO := Go.Lib.hid (fun h => keys_once hr h)
  clear hv hr
  generalize keysB l = q at *
  go_enter Try.func37, Try.ntmps37
  go_wp2_with fail
  go_loopw [3] (fun ii wr => ∃ p : Nat, ii = .int .i64 ((p : Int) + 1) ∧ p ≤ l.length ∧ Hid (∀ j (hj : j + 1 < l.length), j < p → keyR l[j] ≠ keyR l[j + 1]) ∧ Hid (Below w.heap.size w wr)) (fun ii _ => 2000 - (intOf ii).toNat)
  case atStart => exact ⟨0, rfl, by omega, Go.Lib.hid (fun j _ h => absurd h (by omega)), HBR⟩
  case round =>
    obtain ⟨p, rfl, hp, HN, HB⟩ := hrel
    by_cases hlt : p + 1 < l.length
    · have hltI : (p : Int) + 1 < (l.length : Int) := by omega
      obtain ⟨b, o, rfl, -, -, c0, c1, c2, c3, c4⟩ := (HR.out.below HB.out).at p (by omega)
      obtain ⟨b', o', he, -, -, d0, d1, d2, d3, d4⟩ := (HR.out.below HB.out).at (p + 1) hlt
      simp only [Option.some.injEq, Addr.mk.injEq] at he
      obtain ⟨rfl, rfl, -⟩ := he
      have hix := run_idx5 b o l.length cap p (by omega)
      have hix2 : ∀ W, (Instr.indexAt 22 (.slice (some ⟨b, o, none⟩) l.length cap) (.int .i64 ((p : Int) + 1))).run Try.prog W = .ok (.pointer (some ⟨b, o + (p + 1) * 5, none⟩)) W := fun W => by
        have := run_idx5 b o l.length cap (p + 1) hlt W
        simpa using this
      have HY := Go.Lib.hid (HYES.out p hlt)
      have HNX := Go.Lib.hid (fun (h : keyR l[p] ≠ keyR l[p + 1]) => show ∀ j (hj : j + 1 < l.length), j < p + 1 → keyR l[j] ≠ keyR l[j + 1] from fun j hj h2 => by
        rcases Nat.lt_or_ge j p with h3 | h3
        · exact HN.out j hj h3
        · obtain rfl : j = p := by omega
          exact h)
      clear HN
      unfold keyR at HY
      rw [show keyR l[p] = l[p].1.toList from rfl, show keyR l[p + 1] = l[p + 1].1.toList from rfl] at HNX
      generalize l[p].1 = kx at *
      generalize l[p + 1].1 = ky at *
      clear c1 c2 c3 c4 d1 d2 d3 d4
      by_cases hq : kx.toList = ky.toList
      · have hqb : (kx.toList == ky.toList) = true := beq_iff_eq.2 hq
        have HE := Go.Lib.hid (HY.out hq)
        clear hq HY HNX
        go_upto_region 4 with (fail)
        go_quiet (fail)
        have HB2 := Go.Lib.hid (HB.out.trans ((below_drewN (Below.refl _ _) nq).mono HB.out.size))
        go_wp2_with fail
        go_ret
        exact ⟨by rw [HE.out]; rfl, HB2.out⟩
      · have hqb : (kx.toList == ky.toList) = false := beq_eq_false_iff_ne.2 hq
        have HE := Go.Lib.hid (HNX.out hq)
        clear hq HY HNX
        go_upto_region 4 with (fail)
        go_quiet (fail)
        have HB2 := Go.Lib.hid (HB.out.trans ((below_drewN (Below.refl _ _) nq).mono HB.out.size))
        clear c0 d0 hix hix2
        generalize wr.drewN nq = w2 at *
        go_wp2_with fail
        exact ⟨⟨p + 1, by go_num, by omega, HE, HB2⟩, by simp only [intOf]; omega⟩
    · have hltI : ¬ (p : Int) + 1 < (l.length : Int) := by omega
      have HE := Go.Lib.hid (HNO.out (fun j hj => HN.out j hj (by omega)))
      go_wp2_with fail
      go_ret
      exact ⟨by rw [HE.out]; rfl, HB.out⟩

/-! ### May -/
def lieTo (TT : TabT) (n : Nat) : Bool := (List.range n).all fun q => lieOk (q / 4) (TT q)
theorem lieTo_succ (TT : TabT) (n : Nat) : lieTo TT (n + 1) = (lieTo TT n && lieOk (n / 4) (TT n)) := by unfold lieTo; rw [List.range_succ, List.all_append]; simp
theorem lieTo_bad {TT : TabT} {q n : Nat} (h : lieOk (q / 4) (TT q) = false) (hq : q < n) : lieTo TT n = false := by
  unfold lieTo
  rw [List.all_eq_false]
  exact ⟨q, List.mem_range.2 hq, by simp [h]⟩
theorem keysB_snoc (l : List RecT) (x : RecT) : keysB (l ++ [x]) = (keysB l && !(l.map Prod.fst).any fun k => decide (k = x.1)) := by
  have hk : ∀ y : RecT, keyR y = keyR x ↔ y.1 = x.1 := fun y => keyR_eq
  by_cases h1 : KeysOk l
  · have h2 := keysB_iff.2 h1
    rw [h2, Bool.true_and]
    by_cases h3 : (l.map Prod.fst).any (fun k => decide (k = x.1)) = true
    · rw [h3]
      rw [Bool.not_true, Bool.eq_false_iff]
      intro hc
      obtain ⟨k, hkm, hke⟩ := List.any_eq_true.1 h3
      obtain ⟨y, hy, rfl⟩ := List.mem_map.1 hkm
      have hc := keysB_iff.1 hc
      unfold KeysOk at hc
      rw [List.map_append] at hc
      exact (List.nodup_append.1 hc).2.2 (keyR y) (List.mem_map.2 ⟨y, hy, rfl⟩) (keyR x) (by simp) ((hk y).2 (of_decide_eq_true hke))
    · rw [Bool.not_eq_true] at h3
      rw [h3, Bool.not_false, keysB_iff]
      refine h1.snoc fun y hy e => ?_
      rw [List.any_eq_false] at h3
      exact h3 y.1 (List.mem_map.2 ⟨y, hy, rfl⟩) (by simpa using (hk y).1 e)
  · have h2 : keysB l = false := by
      rw [Bool.eq_false_iff]
      exact fun h => h1 (keysB_iff.1 h)
    rw [h2, Bool.false_and, Bool.eq_false_iff]
    intro hc
    have hc := keysB_iff.1 hc
    unfold KeysOk at hc h1
    rw [List.map_append] at hc
    exact h1 (List.nodup_append.1 hc).1
theorem ok_split (TT : TabT) : ∀ n, okTo TT n = (lieTo TT n && keysB (recsT TT n))
  | 0 => rfl
  | n + 1 => by
    rw [okTo_succ, ok_split TT n, lieTo_succ, recsT_succ]
    unfold okSlot lieOk
    cases h : (TT n).1 with
    | false => simp only [Bool.false_eq_true, if_false, List.append_nil]; cases lieTo TT n <;> cases keysB (recsT TT n) <;> simp
    | true =>
      simp only [if_true]
      rw [keysB_snoc]
      show _ = _
      have : keysT TT n = (recsT TT n).map Prod.fst := rfl
      rw [this]
      cases lieTo TT n <;> cases keysB (recsT TT n) <;> cases mayT (TT n).2 <;> simp

set_option maxHeartbeats 4000000 in
set_option maxRecDepth 100000 in
theorem omay_c (TT : TabT) (w : World) (hs : ∀ q, q < 32 → (TT q).2.1.size ≤ 1000 ∧ (TT q).2.2.2.2.2.size ≤ 1000) :
    Calls Try.prog 12 #[.agg (tabL TT 32).toArray] w fun e w' => e = .returned (.bool (okTo TT 32)) ∧ Below w.heap.size w w' := by
  have HRG := Go.Lib.hid (TO.new w TT)
  have HB := Go.Lib.hid (below_one w (.cells (tabL TT 32).toArray 38))
  have HS := Go.Lib.hid hs
  have HV := Go.Lib.hid (tabV TT)
  have HRA := Go.Lib.hid (fun (W : World) g (h : TO W g TT) => h.range)
  have CL := Go.Lib.hid fun W => olist_c TT W hs
  have HOK := Go.Lib.hid (ok_split TT 32)
  clear hs
  generalize tabL TT 32 = TL at *
  generalize (fun b => (rowL TT b).toArray) = RL at *
  generalize (rowL (fun _ => (false, nullR)) 0).toArray = Z at *
  generalize okTo TT 32 = R at *
  obtain ⟨g, hg⟩ : ∃ g, g = w.heap.size := ⟨_, rfl⟩
  have HG := Go.Lib.hid hg
  rw [← hg] at HRG HB ⊢
  clear hg
  have hz := HV.out.zero
  go_enter Try.func12, Try.ntmps12
  go_upto_region 1 with (fail)
  rw [← HG.out]
  generalize w.alloc (.cells TL.toArray 38) = w1 at *
  have HRX := Go.Lib.hid (HRA.out _ _ HRG.out)
  go_wp2_with (first
    | (with_reducible show wpList _ _ _ (⟨some 7, _, _, _, _, _⟩ :: _) _ _; go_loud (refine wpList_load_mid rfl 38 (.tmp 1) rfl g 0 rfl TL _ HRX.out Try.underlying38 rfl HV.out.size ?_))
    | fail)
  go_loopw [8] (fun bv wr => ∃ (b : Nat), b ≤ 8 ∧ bv = .int .i64 (b : Int) ∧ Hid (lieTo TT (4 * b) = true) ∧ Hid (TO wr g TT) ∧ Hid (Below g w wr)) (fun bv _ => 8 - (intOf bv).toNat)
  case atStart => exact ⟨0, by omega, rfl, Go.Lib.hid rfl, HRG, HB⟩
  case round =>
    clear HRX HRG HB
    obtain ⟨b, hb, rfl, HO, HT, HB⟩ := hrel
    by_cases hlt : b < 8
    · have hltI : (b : Int) < 8 := by omega
      have hix := HV.out.row b hlt
      have hgw : g ≤ wr.heap.size := by have := HB.out.size; have := HG.out; omega
      have hb2 := below_one wr (.cells Z 36)
      have HZ := Go.Lib.hid (heap_alloc_new wr (.cells Z 36))
      have HX := Go.Lib.hid (setRow_heap _ wr.heap.size _ (RL b) 36 (0, 0) HZ.out)
      have hb3 := setRow_below (RL b) hb2 (Nat.le_refl _)
      have HB2 := Go.Lib.hid (HB.out.trans (hb3.mono hgw))
      have HT2 := Go.Lib.hid (HT.out.below hb3)
      clear hb2 hb3 HB HT
      go_upto_region 4 with (first
        | (with_reducible show wpList _ _ _ (⟨none, Op.store 36 (.tmp 4) (.tmp 11), _, _, _, _⟩ :: _) _ _; go_loud (refine wpList_store_row rfl 36 (.tmp 4) (.tmp 11) rfl wr.heap.size (RL b) rfl rfl 36 Z HZ.out (HV.out.rsize b) (HV.out.zsize b) (HV.out.rone b) ?_))
        | fail)
      obtain ⟨g2, hg2⟩ : ∃ g2, g2 = wr.heap.size := ⟨_, rfl⟩
      rw [← hg2] at HX HT2 HB2 ⊢
      clear hg2 HZ hix hz hgw
      generalize (wr.alloc (.cells Z 36)).setRow g2 (RL b) = w2 at *
      go_wp2_with (first
        | (with_reducible show wpList _ _ _ (⟨some 12, _, _, _, _, _⟩ :: _) _ _; go_loud (refine wpList_load_row rfl 36 (.tmp 4) rfl g2 rfl 36 (RL b) (0, 0) _ HX.out Try.underlying36 rfl (HV.out.rsize b) ?_))
        | fail)
      go_loopw [13] (fun sv wr => ∃ (s : Nat), s ≤ 4 ∧ sv = .int .i64 (s : Int) ∧ Hid (lieTo TT (4 * b + s) = true) ∧ Hid (TO wr g TT) ∧ Hid (Below g w wr)) (fun sv _ => 4 - (intOf sv).toNat)
      case atStart => exact ⟨0, by omega, rfl, HO, HT2, HB2⟩
      case round =>
        clear HT2 HB2 HX HO
        obtain ⟨s, hs4, rfl, HO, HT, HB⟩ := hrel
        by_cases hslt : s < 4
        · have hsI : (s : Int) < 4 := by omega
          have hgw : g ≤ wr.heap.size := by have := HB.out.size; have := HG.out; omega
          have hix2 := HV.out.slot b s hslt
          rw [slot6] at hix2
          have hsz := HS.out (4 * b + s) (by omega)
          have HGOOD := Go.Lib.hid (fun (h : lieOk b (TT (4 * b + s)) = true) => show lieTo TT (4 * b + (s + 1)) = true from by rw [show 4 * b + (s + 1) = (4 * b + s) + 1 by omega, lieTo_succ, HO.out, show (4 * b + s) / 4 = b by omega, h]; rfl)
          have HBAD := Go.Lib.hid (fun (h : lieOk b (TT (4 * b + s)) = false) => show R = false from by rw [HOK.out, lieTo_bad (q := 4 * b + s) (by rw [show (4 * b + s) / 4 = b by omega]; exact h) (by omega)]; rfl)
          generalize TT (4 * b + s) = y at *
          obtain ⟨hq, kx, gx, ax, nx, sx⟩ := y
          simp only [] at hix2 hsz HGOOD HBAD
          have hbA := below_one wr (.cells #[.bool hq, .string kx, .bool gx, .int .i64 ax, .int .i64 nx, .string sx] 35)
          have HX := Go.Lib.hid (heap_alloc_new wr (.cells #[.bool hq, .string kx, .bool gx, .int .i64 ax, .int .i64 nx, .string sx] 35))
          have HT2 := Go.Lib.hid (HT.out.below hbA)
          have HB2 := Go.Lib.hid (HB.out.trans (hbA.mono hgw))
          have CF := Go.Lib.hid fun W => maylie_c b hq kx gx ax nx sx W hsz.1 hsz.2
          generalize lieOk b (hq, kx, gx, ax, nx, sx) = r at *
          clear hbA hsz HO HB HT
          go_upto_region 7 with (fail)
          obtain ⟨g3, hg3⟩ : ∃ g, g = wr.heap.size := ⟨_, rfl⟩
          rw [← hg3] at HX ⊢
          clear hg3 hix2
          generalize wr.alloc (.cells #[.bool hq, .string kx, .bool gx, .int .i64 ax, .int .i64 nx, .string sx] 35) = w3 at *
          obtain ⟨x0, x1, x2, x3, x4, x5⟩ := row6 HX.out
          go_wp2_with fail
          refine (CF.out _).mono ?_
          rintro e w4 ⟨rfl, hc⟩
          have HT4 := Go.Lib.hid (HT2.out.below hc)
          have HB4 := Go.Lib.hid (HB2.out.trans (hc.mono (by have := HB2.out.size; have := HG.out; omega)))
          clear hc CF x0 x1 x2 x3 x4 x5 HX HT2 HB2
          cases r with
          | false =>
            have HE := Go.Lib.hid (HBAD.out rfl)
            go_wp2_with fail
            go_ret
            exact ⟨by rw [HE.out]; rfl, HB4.out⟩
          | true =>
            have HE := Go.Lib.hid (HGOOD.out rfl)
            go_wp2_with fail
            exact ⟨⟨s + 1, by omega, by go_num, HE, HT4, HB4⟩, by simp only [intOf]; omega⟩
        · obtain rfl : s = 4 := by omega
          go_wp2_with fail
          exact ⟨⟨b + 1, by omega, by go_num, HO, HT, HB⟩, by simp only [intOf]; omega⟩
    · obtain rfl : b = 8 := by omega
      rw [HO.out, Bool.true_and] at HOK
      have HRX := Go.Lib.hid (HRA.out _ _ HT.out)
      go_wp2_with (first
        | (with_reducible show wpList _ _ _ (⟨some 22, _, _, _, _, _⟩ :: _) _ _; go_loud (refine wpList_load_mid rfl 38 (.tmp 1) rfl g 0 rfl TL _ HRX.out Try.underlying38 rfl HV.out.size ?_))
        | fail)
      refine (CL.out _).mono ?_
      rintro e w2 ⟨v2, l2, rfl, hp, hr, ho, hc⟩
      have hl2 : l2.length ≤ 1000 := by have := hp.length_eq; have := recsT_len TT 32; omega
      have CT := twice_c v2 l2 w2 ho.rs hr hl2
      rw [keysB_perm hp, ← HOK.out] at CT
      have CT := Go.Lib.hid CT
      have HB2 := Go.Lib.hid (HB.out.trans (hc.mono (by have := HB.out.size; have := HG.out; omega)))
      clear hp hr ho hc hl2 CL
      go_wp2_with fail
      refine CT.out.mono ?_
      rintro e w3 ⟨rfl, hc⟩
      have HB3 := Go.Lib.hid (HB2.out.trans (hc.mono (by have := HB2.out.size; have := HG.out; omega)))
      clear hc CT
      go_wp2_with fail
      go_ret
      exact ⟨by simp, HB3.out⟩
end Go.Proofs.Ytgalppnpmfpdbaa
