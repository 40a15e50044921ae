/-
  What a value holds.
  The contract of strings.HasPrefix.
  The contract of runes.Valid.
  Package value: contract of textMay.
  The contract of strings.Clone.
  Package value: contract of Of.
  Package key: contract of May.
  Package record: contracts of valMay, May, Eq.
-/
import Derived.Test.YtmlndgkpbodnnaaM02
import Derived.Test.YtmlndgkpbodnnaaM01
import Derived.Lib.UnsafeStr
import Derived.Lib.BufferWrite
import Derived.Test.YtmlndgkpbodnnaaM03
namespace Go.Proofs.Ytmlndgkpbodnnaa
open Go.RowKit

/-- What a value holds. -/
inductive VI where
  | none
  | num (n : Int)
  | text (s : ByteArray)
def VI.v : VI → Value
  | .none => .nilIface
  | .num n => .iface 80 (.int .i64 n)
  | .text s => .iface 81 (.string s)
def VI.val (x : VI) : Value := .agg #[x.v]
def VI.k : VI → Int
  | .none => 0
  | .num _ => 1
  | .text _ => 2
def VI.n : VI → Int
  | .num n => n
  | _ => 0
def VI.s : VI → ByteArray
  | .text s => s
  | _ => ⟨#[]⟩
def VI.isN : VI → Bool
  | .num _ => true
  | _ => false
def VI.isT : VI → Bool
  | .text _ => true
  | _ => false
def ofR (k n : Int) (s : ByteArray) : VI := if mayR k n s then (if k = 1 then .num n else .text s) else .none

end Go.Proofs.Ytmlndgkpbodnnaa

namespace Go.Proofs.Ytmlndgkpbodnnaa
open Go.RowKit

/-- Does t begin with p? -/
theorem prefix_eq (s t : ByteArray) : ((s.extract 0 t.size).toList == t.toList) = (bl t).isPrefixOf (bl s) := by
  rw [Bool.eq_iff_iff, beq_iff_eq, List.isPrefixOf_iff_prefix, List.prefix_iff_eq_take, ByteArray.toList_eq, ByteArray.toList_eq, Go.Lib.extract_data]
  unfold bl
  rw [← Go.Lib.size_eq]
  simp
  exact eq_comm

set_option maxRecDepth 100000 in
theorem lprefix_c (s t : ByteArray) (w : World) (_hm : s.size ≤ maxLen) :
    Calls Try.prog 85 #[.string s, .string t] w fun e w' => e = .returned (.bool ((bl t).isPrefixOf (bl s))) ∧ w = w' := by
  have hm := _hm
  unfold maxLen at hm
  by_cases h : t.size ≤ s.size
  · have hp := Go.Lib.hid (prefix_eq s t)
    go_enter Try.func85, Try.ntmps85
    go_wp2
    go_ret
    exact ⟨ret_of (congrArg Value.bool hp.out), rfl⟩
  · have hp : (bl t).isPrefixOf (bl s) = false := by
      cases hx : (bl t).isPrefixOf (bl s) with
      | false => rfl
      | true =>
        rw [List.isPrefixOf_iff_prefix] at hx
        have := hx.length_le
        rw [← bl_size, ← bl_size] at this
        exact absurd this h
    have hp := Go.Lib.hid hp
    go_enter Try.func85, Try.ntmps85
    go_wp2
    go_ret
    exact ⟨ret_of (congrArg Value.bool hp.out.symm), rfl⟩

theorem prefix_c (s t : ByteArray) (w : World) (hm : s.size ≤ maxLen) :
    Calls Try.prog 78 #[.string s, .string t] w fun e w' => e = .returned (.bool ((bl t).isPrefixOf (bl s))) ∧ w = w' := by
  have C := Go.Lib.hid (lprefix_c s t w hm)
  go_enter Try.func78, Try.ntmps78
  go_wp2_with (refine C.out.mono ?_; rintro e w1 ⟨rfl, rfl⟩)
  go_ret
  exact ⟨rfl, rfl⟩

end Go.Proofs.Ytmlndgkpbodnnaa

namespace Go.Proofs.Ytmlndgkpbodnnaa
open Go.RowKit

set_option maxRecDepth 100000 in
theorem valid_c (s : ByteArray) (w : World) (hm : s.size ≤ 1000000000) :
    Calls Try.prog 66 #[.string s] w fun e w' => e = .returned (.bool (wellB (toks (bl s)))) ∧ Below w.heap.size w w' := by
  have hl1 := toks_length (bl s)
  rw [← bl_size] at hl1
  obtain ⟨T, hT⟩ : ∃ T, T = (toks (bl s)).length := ⟨_, rfl⟩
  rw [← hT] at hl1
  have HT := Go.Lib.hid hT; clear hT
  go_enter Try.func66, Try.ntmps66
  go_wp2
  go_loopw [2] (fun _ wr => ∃ n : Nat, n ≤ T ∧ Hid (wellB ((toks (bl s)).take n) = true) ∧ wr.heap[w.heap.size]? = some (.stringIter s (posOf (bl s) n)) ∧ Below w.heap.size w wr) (fun _ wr => s.size - wr.iterPos w.heap.size)
  case atStart => exact ⟨0, by omega, rfl, World.iter_heap w s 0, (Below.refl _ w).alloc (Nat.le_refl _) _⟩
  case round =>
    obtain ⟨n, hn, hwell, hit, hbw⟩ := hrel
    by_cases hlt : n < T
    · have hT' : n < (toks (bl s)).length := by rw [← HT.out]; exact hlt
      obtain ⟨p1, p2, p3, p4⟩ := next_some s n hT'
      have hnx : ∀ ty, (Instr.next (.pointer (some ⟨w.heap.size, 0, none⟩)) true ty).run Try.prog wr = _ := fun ty => Go.Lib.run_next_any_at wr w.heap.size s _ ty hit p1
      rw [p3] at hnx
      rw [p2] at hnx
      have hit2 := Go.Lib.iterAt_heap wr w.heap.size s _ (posOf (bl s) (n + 1)) hit
      have hbw2 := below_iter hbw (Nat.le_refl _) s (posOf (bl s) (n + 1))
      have hwt := well_take (bl s) n hT'
      rw [hwell.out, Bool.true_and] at hwt
      have hmeas : Hid (s.size - posOf (bl s) (n + 1) < s.size - wr.iterPos w.heap.size) := by
        have := posOf_lt_succ (bl s) n hT'
        simp only [Hid, World.iterPos, hit]
        omega
      have hne := drop_ne (bl s) n hT'
      have hwf := well_false (bl s) n hT'
      have HP := fun W => prefix_c (s.extract (posOf (bl s) n) s.size) ⟨#[239, 191, 189]⟩ W (by simp [maxLen]; omega)
      rw [drop_bl] at HP
      have hle : posOf (bl s) n ≤ s.size := by omega
      clear p1 p2 p3 p4 hit hbw hwell
      have hof := okB_false (l := (bl s).drop (posOf (bl s) n))
      have hod : okB ((bl s).drop (posOf (bl s) n)) = (enc (dr ((bl s).drop (posOf (bl s) n)))).isPrefixOf ((bl s).drop (posOf (bl s) n)) := rfl
      generalize hL : (bl s).drop (posOf (bl s) n) = L at *
      generalize posOf (bl s) n = p at *
      have HP' := Go.Lib.hid HP; clear HP
      have Hwt := Go.Lib.hid hwt; clear hwt
      have Hwf := Go.Lib.hid hwf; clear hwf
      have Hod := Go.Lib.hid hod; clear hod
      have Hof := Go.Lib.hid hof; clear hof
      clear hL
      generalize wr.iterAt w.heap.size s (posOf (bl s) (n + 1)) = wi at hnx hit2 hbw2
      by_cases hr : dr L = 65533
      · rw [hr] at hnx
        have hpre : Hid ((bl ⟨#[239, 191, 189]⟩).isPrefixOf L = okB L) := by
          unfold Hid
          rw [Hod.out, hr, enc_bad]
          rfl
        cases ho : okB L with
        | true =>
          rw [ho] at hpre
          go_wp2_with (refine (HP'.out _).mono ?_; rintro e w1 ⟨rfl, rfl⟩; rw [hpre.out])
          go_roundw
          case rel => exact ⟨n + 1, by omega, Hwt.out.trans ho, hit2, hbw2⟩
          case measure => simp only [World.iterPos, hit2]; exact hmeas.out
        | false =>
          rw [ho] at hpre
          go_wp2_with (refine (HP'.out _).mono ?_; rintro e w1 ⟨rfl, rfl⟩; rw [hpre.out])
          go_ret
          exact ⟨ret_of (congrArg Value.bool (Hwf.out ho).symm), hbw2⟩
      · have ho : okB L = true := by
          cases ho : okB L with
          | true => rfl
          | false => exact absurd (Hof.out ho hne).1 hr
        have hr2 : ((dr L : Int) == 65533) = false := by
          rw [beq_eq_false_iff_ne]; omega
        generalize dr L = r at hnx hr2
        clear hr
        go_wp2
        go_roundw
        case rel => exact ⟨n + 1, by omega, Hwt.out.trans ho, hit2, hbw2⟩
        case measure => simp only [World.iterPos, hit2]; exact hmeas.out
    · have hend : ¬ posOf (bl s) n < s.size := by
        rw [posOf_all (bl s) n (by rw [← HT.out]; omega), bl_size]
        exact Nat.lt_irrefl _
      have hnx : ∀ ty, (Instr.next (.pointer (some ⟨w.heap.size, 0, none⟩)) true ty).run Try.prog wr = _ := fun ty => Go.Lib.run_next_end_at wr w.heap.size s _ ty hit hend
      have hall : Hid (wellB (toks (bl s)) = true) := by
        have := hwell.out
        rwa [List.take_of_length_le (by rw [← HT.out]; omega)] at this
      clear hend
      go_wp2
      go_ret
      exact ⟨ret_of (congrArg Value.bool hall.out.symm), hbw⟩

end Go.Proofs.Ytmlndgkpbodnnaa

namespace Go.Proofs.Ytmlndgkpbodnnaa
open Go.RowKit

set_option maxRecDepth 100000 in
theorem textMay_c (s : ByteArray) (w : World) : Calls Try.prog 58 #[.string s] w fun e w' => e = .returned (.bool (decide (s.size ≤ 24) && wellB (toks (bl s)))) ∧ Below w.heap.size w w' := by
  by_cases h : s.size ≤ 24
  · have C := Go.Lib.hid fun W => valid_c s W (by omega)
    go_enter Try.func58, Try.ntmps58
    go_wp2_with fail
    refine (C.out _).mono ?_
    rintro e w1 ⟨rfl, hb1⟩
    go_wp2_with fail
    go_ret
    exact ⟨ret_of (congrArg Value.bool (by simp [h])), hb1⟩
  · go_enter Try.func58, Try.ntmps58
    go_wp2_with fail
    go_ret
    exact ⟨ret_of (congrArg Value.bool (by simp)), Below.refl _ _⟩

end Go.Proofs.Ytmlndgkpbodnnaa

namespace Go.Proofs.Ytmlndgkpbodnnaa
open Go.RowKit

set_option maxRecDepth 100000 in
theorem lclone_c (s : ByteArray) (w : World) (hm : s.size ≤ 140737488355328) :
    Calls Try.prog 65 #[.string s] w fun e w' => e = .returned (.string s) ∧ Below w.heap.size w w' := by
  by_cases h0 : s.size = 0
  · have hs : s = ⟨#[]⟩ := ByteArray.ext (Array.eq_empty_of_size_eq_zero h0)
    subst hs
    go_enter Try.func65, Try.ntmps65
    go_wp2
    go_ret
    exact ⟨rfl, Below.refl _ _⟩
  · have hq : s.size = s.data.toList.length := Go.Lib.size_eq s
    have hco : Try.prog.cellsOf 5 = 1 := by kernel_rfl
    have hi1 : (Try.prog.info? 5).map (·.size) = some 1 := by kernel_rfl
    obtain ⟨i, hi, hz, hsize, hby⟩ := info_parts info8
    obtain ⟨row0, hrow0⟩ : ∃ r, r = madeCells (Value.int .u8 0).cells s.size := ⟨_, rfl⟩
    have hlen0 : row0.size = s.size := by rw [hrow0, size_madeCells]
    have mk : ∀ W : World, (Instr.makeSlice 26 (.int .i64 (s.size : Int)) (.int .i64 (s.size : Int))).run Try.prog W = .ok (.slice (some ⟨W.heap.size, 0, none⟩) s.size s.size) (W.alloc (.cells row0 5)) := by
      intro W
      have hr := run_make (P := Try.prog) W 26 5 i (.int .u8 0) Try.underlying26 hi hz .i64 .i64 (s.size : Int) (s.size : Int) (by omega) (by omega) (by rw [hby]; omega) (by omega)
      rw [hsize] at hr
      simpa [hrow0] using hr
    have new1 := heap_alloc_new w (.cells row0 5)
    have cp := Go.Lib.run_copy_row_string (P := Try.prog) (w.alloc (.cells row0 5)) 26 9 3 5 w.heap.size 0 s.size s.size s row0 5 Try.underlying26 hi1 new1 (Nat.le_refl _) (by omega)
    obtain ⟨row1, hrow1⟩ : ∃ r, r = (row0.toList.take 0 ++ Go.Lib.byteCells s.data.toList ++ row0.toList.drop (0 + s.size)).toArray := ⟨_, rfl⟩
    rw [← hrow1] at cp
    have hlist1 : row1.toList = Go.Lib.byteCells s.data.toList := by
      rw [hrow1]
      simp [hlen0]
    have hlen1 : row1.size = s.size := by rw [← Array.length_toList, hlist1, Go.Lib.byteCells_length, hq]
    have new2 := setRow_heap (w.alloc (.cells row0 5)) w.heap.size row0 row1 5 (0, 0) new1
    have us := Go.Lib.run_unsafeString_row (P := Try.prog) ((w.alloc (.cells row0 5)).setRow w.heap.size row1) 101 3 9 5 Try.underlying101 hco w.heap.size row1.size (by unfold World.shape?; rw [new2]) s.data.toList
      (by intro e; rw [e] at hq; exact h0 hq) (by omega) (by omega)
      (fun j x hx => Go.Lib.cells_of_row new2 row1.size j _ (by rw [List.take_of_length_le (by simp), hlist1]; simp [Go.Lib.byteCells, hx]))
    rw [← hq] at us
    clear hrow1 hrow0 hlen0 new1 new2 hlist1 hlen1 hq hco hi1 hi hz hsize hby
    go_enter Try.func65, Try.ntmps65
    go_wp2
    go_ret
    have b1 : Below w.heap.size w (w.alloc (.cells row0 5)) := (Below.refl _ w).alloc (Nat.le_refl _) _
    have b2 : Below w.heap.size (w.alloc (.cells row0 5)) ((w.alloc (.cells row0 5)).setRow w.heap.size row1) := ⟨rfl, rfl, rfl, by simp, fun k hk => setRow_other _ _ _ _ (by omega)⟩
    exact ⟨rfl, Go.Lib.below_freeze (b1.trans b2) (p := ⟨w.heap.size, 0, none⟩) (Nat.le_refl _) _⟩

theorem clone_c (s : ByteArray) (w : World) (hm : s.size ≤ 140737488355328) :
    Calls Try.prog 56 #[.string s] w fun e w' => e = .returned (.string s) ∧ Below w.heap.size w w' := by
  have C := Go.Lib.hid (lclone_c s w hm)
  go_enter Try.func56, Try.ntmps56
  go_wp2_with (refine C.out.mono ?_; rintro e w1 ⟨rfl, h1⟩)
  go_ret
  exact ⟨rfl, h1⟩

end Go.Proofs.Ytmlndgkpbodnnaa

namespace Go.Proofs.Ytmlndgkpbodnnaa
open Go.RowKit

/-- Two blocks of its own, whatever was made later. -/
theorem two_kept (w : World) (o1 o2 : Obj) (w1 : World) (hb : Below ((w.alloc o1).alloc o2).heap.size ((w.alloc o1).alloc o2) w1) :
    w1.heap[w.heap.size]? = some o1 ∧ w1.heap[w.heap.size + 1]? = some o2 ∧ Below w.heap.size w w1 := by
  have hlt0 : w.heap.size < ((w.alloc o1).alloc o2).heap.size := (Array.getElem?_eq_some_iff.1 (two_first w o1 o2)).1
  have hlt1 : w.heap.size + 1 < ((w.alloc o1).alloc o2).heap.size := (Array.getElem?_eq_some_iff.1 (heap_alloc2_new w o1 o2)).1
  exact ⟨(hb.block _ hlt0).trans (two_first w _ _), (hb.block _ hlt1).trans (heap_alloc2_new w _ _), (below_two w o1 o2).trans (hb.mono (below_two w _ _).size)⟩

/-- A row and one more are what is answered. -/
theorem results_row_one {P : Program} {fn : Func} {p u : Tmp} {ty : TypeId} (h : fn.results = #[.cell p ty, .tmp u]) (tmps : Array Value) (w : World) (g : Nat) (t : TypeId) (cs : Array Value) (fr : Nat × Nat) (d : TypeDesc)
    (hp : tmps.getD p undef = .pointer (some ⟨g, 0, none⟩)) (hg : w.heap[g]? = some (.cells cs t fr))
    (hu : P.underlying ty = some d) (hd : (match d with | .struct _ | .array _ _ => true | _ => false) = true) (hi : (P.info? ty).map (·.size) = some cs.size) :
    (results fn tmps).run P w = .ok (.tuple #[.agg cs, tmps.getD u undef]) w := by
  have hp' : tmps[p]?.getD undef = .pointer (some ⟨g, 0, none⟩) := by simpa using hp
  simp only [results, h]
  simp [Result.andThen, hp', asAddr, run_loadVar_row w g t ty cs fr d hg hu hd hi]

theorem vi_one (x : VI) : x.v.oneCell' = true := by cases x <;> rfl
theorem store_vi (x : VI) (W : World) : (store ⟨W.heap.size, 0, none⟩ x.v).run Try.prog (W.alloc (.cells #[.nilIface] 68)) = .ok () (W.alloc (.cells #[x.v] 68)) := by
  cases x <;> simp [VI.v, go_sem]

/-- What 'Of' answers. -/
theorem ret_of_at {w w0 : World} {tmps : Array Value} {x : VI} {e : Int} {g : Nat} {fr : Nat × Nat} {v : Value}
    (hp : tmps.getD 2 undef = .pointer (some ⟨g, 0, none⟩)) (hg : w.heap[g]? = some (.cells #[x.v] 68 fr)) (h3 : tmps.getD 3 undef = .int .i64 e)
    (hr : .tuple #[x.val, .int .i64 e] = v) (hb : Below w0.heap.size w0 w) : bodyPost Try.prog Try.f45 (fun e w' => e = .returned v ∧ Below w0.heap.size w0 w') Exit.ret { tmps := tmps, defers := [] } w := by
  subst hr
  have h := results_row_one (P := Try.prog) (fn := Try.f45) (p := 2) (u := 3) (ty := 68) rfl tmps w g 68 #[x.v] fr _ hp hg Try.underlying68 rfl (by kernel_rfl)
  rw [h3] at h
  exact bodyPost_ret h rfl ⟨rfl, hb⟩

def ofV (k n : Int) (s : ByteArray) : Value := .tuple #[(ofR k n s).val, .int .i64 (if mayR k n s then 0 else 1)]

theorem of_bad {k n : Int} {s : ByteArray} (h : mayR k n s = false) : ofV k n s = .tuple #[VI.none.val, .int .i64 1] := by simp [ofV, ofR, h]
theorem of_num {n : Int} {s : ByteArray} (h : mayR 1 n s = true) : ofV 1 n s = .tuple #[(VI.num n).val, .int .i64 0] := by simp [ofV, ofR, h]
theorem of_text {n : Int} {s : ByteArray} (h : mayR 2 n s = true) : ofV 2 n s = .tuple #[(VI.text s).val, .int .i64 0] := by simp [ofV, ofR, h]

set_option maxRecDepth 100000 in
theorem vof_c (k n : Int) (s : ByteArray) (w : World) : Calls Try.prog 45 #[rawV k n s] w fun e w' => e = .returned (ofV k n s) ∧ Below w.heap.size w w' := by
  by_cases h1 : k = 1
  · subst h1
    by_cases h2 : s = ⟨#[]⟩
    · subst h2
      have hv := Go.Lib.hid (of_num (n := n) (s := ⟨#[]⟩) (by unfold mayR; simp))
      unfold rawV
      go_enter Try.func45, Try.ntmps45
      go_wp2_with fail
      exact ret_of_at (x := .num n) rfl (heap_alloc2_new ..) rfl hv.out.symm (below_two ..)
    · have h3 : Hid (mayR 1 n s = false) := by
        unfold Hid mayR
        rw [if_pos rfl, ByteArray.toList_eq]
        cases hl : s.data.toList with
        | nil => exact absurd (ByteArray.ext (Array.toList_inj.1 (by simpa using hl))) h2
        | cons a l => rfl
      have hv := Go.Lib.hid (of_bad h3.out)
      have h4 : (s.toList == []) = false := by
        have := h3.out
        unfold mayR at this
        rw [if_pos rfl] at this
        rw [← this]
        cases s.toList <;> rfl
      clear h3
      unfold rawV
      go_enter Try.func45, Try.ntmps45
      go_wp2_with fail
      exact ret_of_at (x := .none) rfl (heap_alloc2_new ..) rfl hv.out.symm (below_two ..)
  by_cases h2 : k = 2
  · subst h2
    by_cases h3 : n = 0
    · subst h3
      have C1 := Go.Lib.hid fun W => textMay_c s W
      have hv : Hid (ofV 2 0 s = if (decide (s.size ≤ 24) && wellB (toks (bl s))) = true then .tuple #[(VI.text s).val, .int .i64 0] else .tuple #[VI.none.val, .int .i64 1]) := by
        unfold Hid
        split
        · rename_i h
          exact of_text (by unfold mayR; simpa using h)
        · rename_i h
          exact of_bad (by unfold mayR; simpa using h)
      have hs : Hid ((decide (s.size ≤ 24) && wellB (toks (bl s))) = true → s.size ≤ 24) := by
        unfold Hid
        intro h
        rw [Bool.and_eq_true, decide_eq_true_eq] at h
        exact h.1
      generalize (decide (s.size ≤ 24) && wellB (toks (bl s))) = t at *
      unfold rawV
      go_enter Try.func45, Try.ntmps45
      go_wp2_with fail
      refine (C1.out _).mono ?_
      rintro e w1 ⟨rfl, hb1⟩
      obtain ⟨hA, hB, hbb⟩ := two_kept _ _ _ _ hb1
      have HB := Go.Lib.hid hB
      have x2 := cell_of_row w1 w.heap.size 2 _ _ _ hA
      simp only [List.getElem?_toArray, List.getElem?_cons_zero, List.getElem?_cons_succ] at x2
      clear hB hA hb1
      cases t with
      | true =>
        have hv2 := Go.Lib.hid (hv.out.trans (if_pos rfl)).symm
        have C2 := Go.Lib.hid fun W => clone_c s W (by have := hs.out rfl; omega)
        clear hs
        go_wp2_with fail
        refine (C2.out _).mono ?_
        rintro e w2 ⟨rfl, hb2⟩
        have hlt : w.heap.size + 1 < w1.heap.size := (Array.getElem?_eq_some_iff.1 HB.out).1
        have HB2 := Go.Lib.hid ((hb2.block _ hlt).trans HB.out)
        have hbb2 := hbb.trans (hb2.mono hbb.size)
        clear hb2 hlt x2 HB hbb
        go_wp2_with (first
          | (with_reducible show wpList _ _ _ (⟨none, Op.store 68 (.tmp 2) (.tmp 35), _, _, _, _⟩ :: _) _ _; go_loud (refine wpList_store_row rfl 68 (.tmp 2) (.tmp 35) rfl (w.heap.size + 1) #[.iface 81 (.string s)] rfl rfl 68 _ HB2.out (by kernel_rfl) rfl (by simp [Value.oneCell']) ?_))
          | fail)
        exact ret_of_at (x := .text s) rfl (setRow_heap _ _ _ _ _ (0, 0) HB2.out) rfl hv2.out (setRow_below _ hbb2 (by omega))
      | false =>
        have hv2 := Go.Lib.hid (hv.out.trans (if_neg (by decide))).symm
        clear x2 hs
        go_wp2_with (first
          | (with_reducible show wpList _ _ _ (⟨none, Op.store 68 (.tmp 2) (.tmp 36), _, _, _, _⟩ :: _) _ _; go_loud (refine wpList_store_row rfl 68 (.tmp 2) (.tmp 36) rfl (w.heap.size + 1) #[.nilIface] rfl rfl 68 _ HB.out (by kernel_rfl) rfl (by simp [Value.oneCell']) ?_))
          | fail)
        exact ret_of_at (x := .none) rfl (setRow_heap _ _ _ _ _ (0, 0) HB.out) rfl hv2.out (setRow_below _ hbb (by omega))
    · have hv := Go.Lib.hid (of_bad (k := 2) (n := n) (s := s) (by unfold mayR; simp [h3]))
      have h3' : (n == 0) = false := by simp [h3]
      unfold rawV
      go_enter Try.func45, Try.ntmps45
      go_wp2_with fail
      exact ret_of_at (x := .none) rfl (heap_alloc2_new ..) rfl hv.out.symm (below_two ..)
  · have hv := Go.Lib.hid (of_bad (k := k) (n := n) (s := s) (by unfold mayR; simp [h1, h2]))
    have h1' : (k == 1) = false := by simp [h1]
    have h2' : (k == 2) = false := by simp [h2]
    unfold rawV
    go_enter Try.func45, Try.ntmps45
    go_wp2_with fail
    exact ret_of_at (x := .none) rfl (heap_alloc2_new ..) rfl hv.out.symm (below_two ..)

end Go.Proofs.Ytmlndgkpbodnnaa

namespace Go.Proofs.Ytmlndgkpbodnnaa
open Go.RowKit Go.Op

set_option maxRecDepth 100000 in
theorem kmayL_c (s : ByteArray) (w : World) (hm : s.size ≤ maxLen) : Calls Try.prog 27 #[.string s] w fun e w' => e = .returned (.bool (mayK s)) ∧ Below w.heap.size w w' := by
  unfold maxLen at hm
  have hb := Below.refl w.heap.size w
  by_cases h1 : 1 ≤ s.size
  · by_cases h2 : s.size ≤ 16
    · go_enter Try.func27, Try.ntmps27
      go_wp2
      go_ret
      exact ⟨ret_of (congrArg Value.bool (by unfold mayK; simp [h1, h2]; try omega)), hb⟩
    · go_enter Try.func27, Try.ntmps27
      go_wp2
      go_ret
      exact ⟨ret_of (congrArg Value.bool (by unfold mayK; simp [h2]; try omega)), hb⟩
  · go_enter Try.func27, Try.ntmps27
    go_wp2
    go_ret
    exact ⟨ret_of (congrArg Value.bool (by unfold mayK; simp [h1]; try omega)), hb⟩

theorem kmay_c (s : ByteArray) (w : World) (hm : s.size ≤ 1000000) : Calls Try.prog 27 #[.string s] w fun e w' => e = .returned (.bool (mayK s)) ∧ Below w.heap.size w w' :=
  kmayL_c s w (by unfold maxLen; omega)

end Go.Proofs.Ytmlndgkpbodnnaa

namespace Go.Proofs.Ytmlndgkpbodnnaa
open Go.RowKit Go.Op

theorem ite_zero (k n : Int) (s : ByteArray) (W : World) :
    (if k = 0 then
      if n = 0 then
        if s.toList = [] then Result.ok (Next.value (Value.bool true)) W
        else Result.ok (Next.value (Value.bool false)) W
      else Result.ok (Next.value (Value.bool false)) W
    else Result.ok (Next.value (Value.bool false)) W) =
    Result.ok (Next.value (Value.bool (k == 0 && n == 0 && s.toList.isEmpty))) W := by
  by_cases h1 : k = 0 <;> by_cases h2 : n = 0 <;> by_cases h3 : s.toList = [] <;> simp [h1, h2, h3]

set_option maxRecDepth 100000 in
theorem valmay_c (key : ByteArray) (gone : Bool) (k n : Int) (s : ByteArray) (w : World) :
    Calls Try.prog 28 #[recV key gone k n s] w fun e w' => e = .returned (.bool (if gone then k == 0 && n == 0 && s.toList.isEmpty else mayR k n s)) ∧ Below w.heap.size w w' := by
  unfold recV
  have hb1 := below_one w (.cells #[.string key, .bool gone, .int .i64 k, .int .i64 n, .string s] 25)
  cases gone with
  | true =>
    have hz := fun W => ite_zero k n s W
    rw [if_pos rfl]
    generalize (k == 0 && n == 0 && s.toList.isEmpty) = t at *
    go_enter Try.func28, Try.ntmps28
    go_wp2_with fail
    go_ret
    exact ⟨rfl, hb1⟩
  | false =>
    rw [if_neg (by decide)]
    have C := Go.Lib.hid fun W => vof_c k n s W
    unfold ofV rawV VI.val at C
    obtain ⟨t, ht⟩ : ∃ t, t = mayR k n s := ⟨_, rfl⟩
    rw [← ht] at C ⊢
    clear ht
    go_enter Try.func28, Try.ntmps28
    go_wp2_with fail
    refine (C.out _).mono ?_
    rintro e w1 ⟨rfl, hb2⟩
    generalize ofR k n s = x at *
    have hst := store_vi x
    have hbb := hb1.trans (hb2.mono hb1.size)
    have hb3 := hbb.trans ((below_one w1 (.cells #[x.v] 68)).mono hbb.size)
    cases t with
    | true =>
      rw [if_pos rfl]
      go_wp2_with fail
      go_ret
      exact ⟨rfl, hb3⟩
    | false =>
      rw [if_neg (by decide)]
      go_wp2_with fail
      go_ret
      exact ⟨rfl, hb3⟩

set_option maxRecDepth 100000 in
theorem pmay_c (key : ByteArray) (gone : Bool) (k n : Int) (s : ByteArray) (w : World) (hk : key.size ≤ maxLen) (_hm : s.size ≤ maxLen) :
    Calls Try.prog 12 #[recV key gone k n s] w fun e w' => e = .returned (.bool (mayRec key gone k n s)) ∧ Below w.heap.size w w' := by
  have C1 := Go.Lib.hid fun W => kmayL_c key W hk
  have c2 := fun W => valmay_c key gone k n s W
  unfold recV at c2 ⊢
  have hv : mayRec key gone k n s = (mayK key && (if gone then k == 0 && n == 0 && s.toList.isEmpty else mayR k n s)) := rfl
  rw [hv]
  generalize (if gone then k == 0 && n == 0 && s.toList.isEmpty else mayR k n s) = t at *
  generalize mayK key = m at *
  have C2 := Go.Lib.hid c2
  clear c2 hv
  have hb1 := below_one w (.cells #[.string key, .bool gone, .int .i64 k, .int .i64 n, .string s] 25)
  have hA := heap_alloc_new w (.cells #[.string key, .bool gone, .int .i64 k, .int .i64 n, .string s] 25)
  cases m with
  | false =>
    go_enter Try.func12, Try.ntmps12
    go_wp2_with fail
    refine (C1.out _).mono ?_
    rintro e w1 ⟨rfl, hb2⟩
    have hbb := hb1.trans (hb2.mono hb1.size)
    go_wp2_with fail
    go_ret
    exact ⟨rfl, hbb⟩
  | true =>
    go_enter Try.func12, Try.ntmps12
    go_wp2_with fail
    refine (C1.out _).mono ?_
    rintro e w1 ⟨rfl, hb2⟩
    have hbb := hb1.trans (hb2.mono hb1.size)
    have hA := row_kept hA hb2
    obtain ⟨x0, x1, x2, x3, x4⟩ := row5 hA
    go_wp2_with fail
    refine (C2.out _).mono ?_
    rintro e w2 ⟨rfl, hb3⟩
    have hbb := hbb.trans (hb3.mono hbb.size)
    go_wp2_with fail
    go_ret
    exact ⟨by simp, hbb⟩

theorem ite_eqRec (key1 : ByteArray) (gone1 : Bool) (k1 n1 : Int) (s1 key2 : ByteArray) (gone2 : Bool) (k2 n2 : Int) (s2 : ByteArray) (W : World) :
    (if key1.toList = key2.toList then
      if gone1 = gone2 then
       if k1 = k2 then
        if n1 = n2 then
         if s1.toList = s2.toList then Result.ok (Next.value (Value.bool true)) W
         else Result.ok (Next.value (Value.bool false)) W
        else Result.ok (Next.value (Value.bool false)) W
       else Result.ok (Next.value (Value.bool false)) W
      else Result.ok (Next.value (Value.bool false)) W
    else Result.ok (Next.value (Value.bool false)) W) =
    Result.ok (Next.value (Value.bool (eqRec key1 gone1 k1 n1 s1 key2 gone2 k2 n2 s2))) W := by
  unfold eqRec eqR
  by_cases h0 : key1.toList = key2.toList <;> by_cases h4 : gone1 = gone2 <;> by_cases h1 : k1 = k2 <;> by_cases h2 : n1 = n2 <;> by_cases h3 : s1.toList = s2.toList <;> simp [h0, h1, h2, h3, h4]

set_option maxRecDepth 100000 in
theorem peq_c (key1 : ByteArray) (gone1 : Bool) (k1 n1 : Int) (s1 key2 : ByteArray) (gone2 : Bool) (k2 n2 : Int) (s2 : ByteArray) (w : World) :
    Calls Try.prog 13 #[recV key1 gone1 k1 n1 s1, recV key2 gone2 k2 n2 s2] w fun e w' => e = .returned (.bool (eqRec key1 gone1 k1 n1 s1 key2 gone2 k2 n2 s2)) ∧ Below w.heap.size w w' := by
  have hz := fun W => ite_eqRec key1 gone1 k1 n1 s1 key2 gone2 k2 n2 s2 W
  generalize eqRec key1 gone1 k1 n1 s1 key2 gone2 k2 n2 s2 = t at *
  unfold recV
  have hbb := below_two w (.cells #[.string key1, .bool gone1, .int .i64 k1, .int .i64 n1, .string s1] 25) (.cells #[.string key2, .bool gone2, .int .i64 k2, .int .i64 n2, .string s2] 25)
  go_enter Try.func13, Try.ntmps13
  go_wp2_with fail
  go_ret
  exact ⟨rfl, hbb⟩

end Go.Proofs.Ytmlndgkpbodnnaa
