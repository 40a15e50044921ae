/- ValueTexts: a text has at most twenty-four bytes, each of its runes whole: for every text and number the law returns true. -/
import Derived.Test.YtpelcnehndlinaaRows
import Derived.WalkKit
import Derived.ProofKit
import Derived.OpenShut
import Derived.ShutString
import Derived.Test.YtpelcnehndlinaaBegun4
import Derived.LoopTactic
import Derived.Deep.DeepCutAuto
namespace Go.Proofs.Ytpelcnehndlinaa.valueTexts
open Go.ChangeShapes Go.WideShapes Go.ChangeAt Go.RowKit
open Go.ChangeMaps (open_string shut_string)
set_option linter.unusedVariables false      -- a walk need not use every 'w<i>' (that an integer argument fits its kind)

theorem own : ownKnob Try.prog.godebug = none := by kernel_rfl

theorem str_append (a b : List UInt8) : str a ++ str b = str (a ++ b) := by
  apply ByteArray.ext; apply Array.toList_inj.1
  simp [str]
theorem well_xs (n : Nat) : wellB (toks (List.replicate n 120)) = true := by
  induction n with
  | zero => decide +kernel
  | succ n ih =>
    have h1 : wellB (toks [120]) = true := by decide +kernel
    rw [show List.replicate (n + 1) (120 : UInt8) = [120] ++ List.replicate n 120 from by simp [List.replicate_succ], toks_append _ _ h1]
    unfold wellB at *
    rw [List.all_append, h1, ih]
    rfl
theorem may_xs (n : Nat) (T : List UInt8) : mayR 2 0 (str (List.replicate n 120 ++ T)) = (decide ((str (List.replicate n 120 ++ T)).size ≤ 24) && wellB (toks T)) := by
  unfold mayR
  rw [bl_str, toks_append _ _ (well_xs n)]
  have h := well_xs n
  unfold wellB at *
  rw [List.all_append, h]
  simp
/-- 'make([]byte, n)', the value said. -/
theorem wpList_make_n {P : Program} {ops : Array Oper} {rest : List Oper} {o : Oper} {a : Act} {w : World} {Q : Exit → Act → World → Prop} (hgd : o.guard = none) (lo co : Operand) (t : TypeId)
    (hop : o.op = Op.makeSlice t lo co) (e : TypeId) (ht : P.underlying t = some (.slice e)) (hinfo : (P.info? e).map (fun i => (i.zero, i.size, i.bytes)) = some (some (.int .u8 0), 1, 1))
    (kl kc : IntKind) (L C : Int) (n : Nat) (hl : a.eval lo = .int kl L) (hc : a.eval co = .int kc C) (hL : L = (n : Int)) (hC : C = (n : Int)) (hcm : n ≤ 140737488355328)
    (h : ∀ w', Own e w' w.heap.size (.slice (some ⟨w.heap.size, 0, none⟩) n n) (List.replicate n 0) → w.grownBy w' none → wpList P ops Q rest (a.put o.dst (.slice (some ⟨w.heap.size, 0, none⟩) n n)) w') : wpList P ops Q (o :: rest) a w := by
  obtain ⟨i, hi, hz, hsize, hby⟩ := info_parts hinfo
  subst hL hC
  have hr := run_make (P := P) w t e i (.int .u8 0) ht hi hz kl kc n n (by omega) (by omega) (by rw [hby]; omega) (by omega)
  simp only [Int.toNat_natCast, hsize, Nat.mul_one] at hr
  refine wpList_gives hgd (.slice (some ⟨w.heap.size, 0, none⟩) n n) (w.alloc (.cells (madeCells (Value.int IntKind.u8 0).cells n) e)) (by simp [execOp, hop, hl, hc, hr, Result.andThen]) (h _ ?_ (World.grownBy_alloc w _ none))
  refine ⟨by simp [cells_length], .inr ⟨w.heap.size, n, madeCells #[Value.int .u8 0] n, (by simp), Nat.le_refl _, ?_, by simp, by unfold maxLen; omega, by simp [size_madeCells], ?_⟩⟩
  · exact heap_alloc_new w _
  · rw [toList_madeCells_one, List.take_replicate]
    simp [cells]

set_option maxHeartbeats 2000000 in
set_option maxRecDepth 100000 in
theorem walk (a0 : ByteArray) (a1 : Int) (w0 : a0.size ≤ maxLen) (w1 : (Lit.int .i64 a1).wf = true) (w : World) :
    Calls Try.prog 6 #[.string a0, .int .i64 a1] w fun e w' => e = .returned (.bool true) ∧ Below w.heap.size w w' := by
  clear w1
  have C1 := Go.Lib.hid fun W => lcut_c a0 30 W w0 (by omega)
  have hT : ((bl a0).take 30).length ≤ 30 := by rw [List.length_take]; omega
  clear w0
  generalize (bl a0).take 30 = T at *
  by_cases h1 : a1 < 0
  · clear hT
    go_enter Try.func6, Try.ntmps6
    go_wp2_with fail
    refine (begun_c _).mono ?_
    rintro e w1 ⟨rfl, hb1⟩
    go_wp2_with fail
    refine (C1.out _).mono ?_
    rintro e w2 ⟨rfl, rfl⟩
    go_wp2_with fail
    go_ret
    exact ⟨rfl, hb1⟩
  by_cases h2 : 40 < a1
  · clear hT
    go_enter Try.func6, Try.ntmps6
    go_wp2_with fail
    refine (begun_c _).mono ?_
    rintro e w1 ⟨rfl, hb1⟩
    go_wp2_with fail
    refine (C1.out _).mono ?_
    rintro e w2 ⟨rfl, rfl⟩
    go_wp2_with fail
    go_ret
    exact ⟨rfl, hb1⟩
  obtain ⟨n, rfl⟩ : ∃ n : Nat, a1 = (n : Int) := ⟨a1.toNat, by omega⟩
  have hn : n ≤ 40 := by omega
  go_enter Try.func6, Try.ntmps6
  go_wp2_with fail
  refine (begun_c _).mono ?_
  rintro e w1 ⟨rfl, hb1⟩
  go_wp2_with fail
  refine (C1.out _).mono ?_
  rintro e w2 ⟨rfl, rfl⟩
  clear C1
  go_wp2_with (first
    | (with_reducible show wpList _ _ _ (⟨some 23, _, _, _, _, _⟩ :: _) _ _; go_loud (refine wpList_make_n rfl (.tmp 22) (.tmp 22) 39 rfl 5 Try.underlying39 info8 .i64 .i64 _ _ n rfl rfl rfl rfl (by omega) ?_); intro w3 hown hg)
    | fail)
  have hb3 := hb1.trans ((grown_below hg (Nat.le_refl _) (by simp)).mono hb1.size)
  have hbs := hb1.size
  clear hg
  go_loopw [26] (fun i wr => ∃ k : Nat, k ≤ n ∧ i = .int .i64 (k : Int) ∧ Own 5 wr w1.heap.size (.slice (some ⟨w1.heap.size, 0, none⟩) n n) (List.replicate k 120 ++ List.replicate (n - k) 0) ∧ Below w.heap.size w wr) (fun i _ => n - (intOf i).toNat)
  case atStart => exact ⟨0, by omega, rfl, by simpa using hown, hb3⟩
  case round =>
    obtain ⟨k, hk, rfl, hown, hbr⟩ := hrel
    by_cases hlt : k < n
    · have hd := hown.cell k (by simp; omega)
      have hf := hown.frozenAt k
      have hst := hown.store k 120 120 rfl
      have hfin : (List.replicate k (120 : UInt8) ++ List.replicate (n - k) 0).set k 120 = List.replicate (k + 1) 120 ++ List.replicate (n - (k + 1)) 0 := by
        rw [List.set_append_right _ _ (by simp), List.length_replicate, Nat.sub_self, show n - k = (n - (k + 1)) + 1 from by omega, List.replicate_succ, List.set_cons_zero, List.replicate_succ', List.append_assoc]
        rfl
      rw [hfin] at hst
      have hrb := hbr.setCell (p := ⟨w1.heap.size, k, none⟩) hbs (.int .u8 120)
      generalize (List.replicate k (120 : UInt8) ++ List.replicate (n - k) 0)[k]'(by simp; omega) = od at hd
      have Hst := Go.Lib.hid hst; clear hst
      have Hrb := Go.Lib.hid hrb; clear hrb
      clear hfin hown hbr
      have hT' := Go.Lib.hid hT; clear hT
      go_wp2_with fail
      go_roundw
      case rel => exact ⟨k + 1, by omega, by go_num, Hst.out, Hrb.out⟩
      case measure => simp [intOf]; omega
    · obtain rfl : k = n := by omega
      have hrb := hown.rb
      rw [Nat.sub_self, List.replicate_zero, List.append_nil] at hrb
      have hs1 : ¬ 9223372036854775807 < (str (List.replicate k (120 : UInt8))).size + (str T).size := by
        rw [str_size, str_size, List.length_replicate]; omega
      have e1 := str_append (List.replicate k 120) T
      have e2 := may_xs k T
      have c2 := fun W => of_c 2 0 (str (List.replicate k 120 ++ T)) W
      have c3 := fun W => rvalid_c (str T) W (by rw [str_size]; omega)
      rw [bl_str] at c3
      have hX : (str (List.replicate k 120 ++ T)).size ≤ 9223372036854775807 := by rw [str_size, List.length_append, List.length_replicate]; omega
      generalize str (List.replicate k 120 ++ T) = X at *
      unfold ofV rawV VI.val at c2
      rw [e2] at c2
      have hst := store_vi (ofR 2 0 X)
      generalize ofR 2 0 X = x at c2 hst
      generalize wellB (toks T) = b at *
      generalize str T = q at *
      have hbr' := hbr
      clear hT e2 hown hb3 hb1 h1 h2 hk hlt hn
      have C3 := Go.Lib.hid c3; clear c3
      by_cases h24 : X.size ≤ 24
      · obtain ⟨e3, he3⟩ : ∃ e3 : Int, (if (decide (X.size ≤ 24) && b) = true then (0 : Int) else 1) = e3 := ⟨_, rfl⟩
        rw [he3] at c2
        have He3 := Go.Lib.hid he3; clear he3
        have C2 := Go.Lib.hid c2; clear c2
        go_wp2_with (first
          | (with_reducible show wpList _ _ _ (⟨some 34, _, _, _, _, _⟩ :: _) _ _; go_loud (refine wpList_string_RB rfl (.tmp 33) 39 9 rfl 5 Try.underlying39 Try.underlying5 Try.underlying9 (.slice (some ⟨w1.heap.size, 0, none⟩) k k) (List.replicate k 120) rfl hrb ?_))
          | fail)
        refine (C2.out _).mono ?_
        rintro e w4 ⟨rfl, hc⟩
        have hbb := hbr'.trans (hc.mono hbr'.size)
        have hbb := hbb.trans ((below_one w4 (.cells #[x.v] 27)).mono hbb.size)
        clear hc hbr hbr' hrb C2 e1 hs1
        rw [show (decide (X.size ≤ 24) && b) = b from by rw [decide_eq_true h24]; rfl] at He3
        go_wp2_with fail
        refine (C3.out _).mono ?_
        rintro e w5 ⟨rfl, rfl⟩
        clear C3
        cases b with
        | true =>
          obtain rfl := He3.out
          rw [if_pos rfl]
          go_wp2_with fail
          go_ret
          exact ⟨rfl, hbb⟩
        | false =>
          obtain rfl := He3.out
          rw [if_neg (by decide)]
          go_wp2_with fail
          go_ret
          exact ⟨rfl, hbb⟩
      · have e4 : (if (decide (X.size ≤ 24) && b) = true then (0 : Int) else 1) = 1 := by simp [h24]
        rw [e4] at c2
        clear e4
        have C2 := Go.Lib.hid c2; clear c2
        go_wp2_with (first
          | (with_reducible show wpList _ _ _ (⟨some 34, _, _, _, _, _⟩ :: _) _ _; go_loud (refine wpList_string_RB rfl (.tmp 33) 39 9 rfl 5 Try.underlying39 Try.underlying5 Try.underlying9 (.slice (some ⟨w1.heap.size, 0, none⟩) k k) (List.replicate k 120) rfl hrb ?_))
          | fail)
        refine (C2.out _).mono ?_
        rintro e w4 ⟨rfl, hc⟩
        have hbb := hbr'.trans (hc.mono hbr'.size)
        have hbb := hbb.trans ((below_one w4 (.cells #[x.v] 27)).mono hbb.size)
        clear hc hbr hbr' hrb C2 e1 hs1 C3
        go_wp2_with fail
        go_ret
        exact ⟨rfl, hbb⟩

/-! ### THE ROW's STEP: WRITTEN OUT: LEAVE IT -/
set_option maxRecDepth 100000 in
theorem lifted (os : Os) (started : os.Started) (H : Type) (enc : TypeId × Value → H) :
    ReturnsInHanded {} Try.checked os 6 .any (Rows.valueTextsSpec.pre6 enc Try.prog Try.f6 Rows.valueTextsRow.domain false) (Rows.valueTextsSpec.post enc Try.prog Try.f6 false true false false) := by
  refine returnsInHanded_of_change (C := Try.checked) own started (by kernel_rfl) Try.func6
    (ChangeSpec.witness6 (enc := enc) (C := Try.checked) false ⟨#[], #[.string ByteArray.empty, .int .i64 0], []⟩ 8 (by kernel_rfl) (by kernel_rfl) (by kernel_rfl) (by kernel_rfl)) ?_
  intro W base args ds gs before hval0 hW hcnd _
  have hval : ∀ (j : Nat) t v, Try.f6.params[j]? = some t → args[j]? = some v → Value.okWide Try.prog W .any base t v := hval0
  have hW' := hW
  obtain ⟨p, q, hA0, hV, rfl, hfz, hnd⟩ := hW
  have hA : DataW.TrodAll enc Try.prog W 0 (fun _ => true) true Try.f6.params.toList args.toList ds p := hA0
  rw [Try.params6] at hA hval
  obtain ⟨v0, vs0, d0, ds0, p0, q0, hargs, rfl, rfl, h0, r0⟩ := trodAll_cons hA
  obtain ⟨v1, vs1, d1, ds1, p1, q1, rfl, rfl, rfl, h1, r1⟩ := trodAll_cons r0
  obtain ⟨rfl, rfl, rfl⟩ := trodAll_nil r1
  obtain rfl : args = #[v0, v1] := by cases args; simp_all
  obtain ⟨rfl, rfl⟩ := trodVars_none hV
  obtain ⟨a0, rfl, rfl, rfl, w0⟩ := open_string Try.underlying9 (hval 0 9 v0 rfl rfl) h0
  obtain ⟨a1, rfl, rfl, rfl, w1⟩ := open_int Try.underlying3 (hval 1 3 v1 rfl rfl) h1
  clear hA0 hval0
  refine (walk a0 a1 w0 w1 W).mono fun e W' ⟨he, hg⟩ => ?_
  subst he
  exact ⟨_, rfl, _, _, _, [], _, [], hW', (trodAll_cons_mk (shut_bool Try.underlying4 _) trodAll_mk0), (trodAll_cons_mk (shut_string Try.underlying9 w0) (trodAll_cons_mk (shut_int Try.underlying3 w1) trodAll_mk0)), rfl, hg.frame _, fun h => by cases h⟩

theorem over : Rows.valueTextsRow.holds Try.pinned (OpenSpec.ofChange Rows.valueTextsSpec) :=
  OpenClaim.holds_of_wide 6 Try.f6 rfl rfl rfl rfl rfl rfl rfl ⟨rfl, rfl, rfl, rfl, rfl⟩ rfl rfl rfl rfl rfl (by kernel_rfl) Try.func6 (by kernel_rfl)
    (of_decide_eq_true (by kernel_rfl)) (by unfold Func.isWrapper; first | (rw [if_pos (by decide +kernel)]; kernel_rfl) | (rw [if_neg (by decide +kernel)]; exact ⟨rfl, rfl⟩))
    (fun os started H enc _ => lifted os started H enc)

/-- ████ THE STATEMENT ████ -/
theorem proved : Rows.ValueTextsSaid :=
  over
#print axioms proved
end Go.Proofs.Ytpelcnehndlinaa.valueTexts
