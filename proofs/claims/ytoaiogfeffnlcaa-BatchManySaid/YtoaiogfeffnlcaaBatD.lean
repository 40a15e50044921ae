/-
  Package batch: contract of Decode.
-/
import Derived.Test.YtoaiogfeffnlcaaBatP
import Derived.Test.YtoaiogfeffnlcaaPGet
namespace Go.Proofs.Ytoaiogfeffnlcaa
open Go.RowKit
open Go.Lib (uvarint zigzag)

/-- 'make([]api.Rec, 0, n)'. -/
theorem wpList_make_recs {ops : Array Oper} {rest : List Oper} {o : Oper} {a : Act} {w : World} {Q : Exit → Act → World → Prop} (hgd : o.guard = none) (lo co : Operand)
    (hop : o.op = Op.makeSlice 22 lo co) (kc : IntKind) (C : Int) (c : Nat) (hl : a.eval lo = .int .i64 0) (hc : a.eval co = .int kc C) (hC : C = (c : Int)) (hcm : c ≤ 1000)
    (h : ∀ v w', OwnRec w' w.heap.size v [] → w.grownBy w' none → wpList Try.prog ops Q rest (a.put o.dst v) w') : wpList Try.prog ops Q (o :: rest) a w := by
  obtain ⟨i, hi, hz, hsize, hby⟩ := info_parts info5
  subst hC
  have hr := run_make (P := Try.prog) w 22 38 i _ Try.underlying22 hi hz .i64 kc 0 c (by omega) (by omega) (by rw [hby]; omega) (by omega)
  simp only [Int.toNat_natCast, hsize] at hr
  refine wpList_gives hgd (.slice (some ⟨w.heap.size, 0, none⟩) 0 c) (w.alloc (.cells (madeCells (Value.agg #[.string ⟨#[]⟩, .bool false, .int .i64 0, .int .i64 0, .string ⟨#[]⟩]).cells (c * 5)) 38)) (by simp at hr; simp [execOp, hop, hl, hc, hr, Result.andThen]) (h _ _ ?_ (World.grownBy_alloc w _ none))
  refine ⟨rfl, .inr ⟨w.heap.size, c, _, rfl, Nat.le_refl _, heap_alloc_new w _, by simp, by unfold maxLen; omega, ?_, ?_⟩⟩
  · simp [size_madeCells, Value.cells]
  · simp [flat5]

def DecQ (b : List UInt8) (w : World) (e : Ending) (w' : World) : Prop :=
  (rowD b = none ∧ e = .returned (.tuple #[.slice none 0 0, .int .i64 8])) ∨ ∃ l v', rowD b = some l ∧ e = .returned (.tuple #[v', .int .i64 0]) ∧ OwnRec w' w.heap.size v' l

theorem rowD_bad {b : List UInt8} {x e : Int} {p : Nat} (hr : getB b = (x, p, e)) (h : e ≠ 0 ∨ x < 0 ∨ 1000 < x) : rowD b = none := by
  unfold rowD; rw [hr]; exact if_pos h
theorem rowD_go {b : List UInt8} {N p : Nat} (hr : getB b = ((N : Int), p, 0)) (h : N ≤ 1000) :
    rowD b = match seqD N (b.drop p) with
    | some (L, []) => some L
    | _ => none := by
  unfold rowD
  rw [hr]
  simp only [Int.toNat_natCast]
  rw [if_neg (by omega)]
  rfl
theorem seqD_step {k : Nat} {b r : List UInt8} {L : List RecT} (h : seqD k b = some (L, r)) {y : List UInt8 × Bool × Int × Int × List UInt8} {m : Nat} (hr : readB r = (y, m, 0)) : seqD (k + 1) b = some (L ++ [unR y], r.drop m) := by
  rw [seqD, h]; simp only []; rw [hr]; simp
theorem seqD_stop {k : Nat} {b r : List UInt8} {L : List RecT} (h : seqD k b = some (L, r)) {y : List UInt8 × Bool × Int × Int × List UInt8} {m : Nat} {e : Int} (hr : readB r = (y, m, e)) (he : e ≠ 0) : seqD (k + 1) b = none := by
  rw [seqD, h]; simp only []; rw [hr]; simp [he]

set_option maxHeartbeats 2000000 in
set_option maxRecDepth 100000 in
theorem bdecode_any (v : Value) (b : List UInt8) (w : World) (hv : RB w v b) :
    Calls Try.prog 15 #[v] w fun e w' => DecQ b w e w' ∧ Below w.heap.size w w' := by
  have HV := Go.Lib.hid hv
  have C0 := get_c v b w hv
  obtain ⟨a, c, rfl, g1, g2, g3, g4⟩ := hv
  have hbm : b.length ≤ 9223372036854775807 := by unfold maxLen at g2; omega
  rcases hr : getB b with ⟨x, p, er⟩
  have hfit := getB_fits b
  rw [hr] at C0 hfit
  unfold gv at C0
  simp only [] at C0 hfit
  obtain ⟨-, -, f1, -⟩ := hfit
  have CG := Go.Lib.hid C0
  clear C0 g1 g2 g3 g4
  by_cases hbad : er ≠ 0 ∨ x < 0 ∨ 1000 < x
  · have K := Go.Lib.hid (rowD_bad hr hbad)
    clear hr f1
    by_cases h0 : er = 0
    · subst h0
      by_cases h1 : x < 0
      · clear hbad
        go_enter Try.func15, Try.ntmps15
        go_wp2_with fail
        refine CG.out.mono ?_
        rintro e w1 ⟨rfl, rfl⟩
        go_wp2_with fail
        go_ret2
        exact ⟨.inl ⟨K.out, rfl⟩, Below.refl _ _⟩
      · have h2 : 1000 < x := by omega
        clear hbad
        go_enter Try.func15, Try.ntmps15
        go_wp2_with fail
        refine CG.out.mono ?_
        rintro e w1 ⟨rfl, rfl⟩
        go_wp2_with fail
        go_ret2
        exact ⟨.inl ⟨K.out, rfl⟩, Below.refl _ _⟩
    · have h0b : (er == 0) = false := by simp [h0]
      clear hbad
      go_enter Try.func15, Try.ntmps15
      go_wp2_with fail
      refine CG.out.mono ?_
      rintro e w1 ⟨rfl, rfl⟩
      go_wp2_with fail
      go_ret2
      exact ⟨.inl ⟨K.out, rfl⟩, Below.refl _ _⟩
  · obtain rfl : er = 0 := Classical.byContradiction fun h => hbad (.inl h)
    obtain ⟨N, rfl⟩ : ∃ N : Nat, x = (N : Int) := ⟨x.toNat, by omega⟩
    have hN : N ≤ 1000 := by omega
    have HD := Go.Lib.hid (rowD_go hr hN)
    have hN0 : ¬ (N : Int) < 0 := by omega
    have hN1 : ¬ (1000 : Int) < (N : Int) := by omega
    clear hbad hr
    go_enter Try.func15, Try.ntmps15
    go_wp2_with fail
    refine CG.out.mono ?_
    rintro e w1 ⟨rfl, rfl⟩
    go_wp2_with (first
      | (with_reducible show wpList _ _ _ (⟨some 28, _, _, _, _, _⟩ :: _) _ _; go_loud (refine wpList_make_recs rfl (.const (.int .i64 0)) (.tmp 27) rfl .i64 _ N rfl rfl rfl (by omega) ?_); intro v2 w2 hown2 hg2)
      | fail)
    have HB2 := Go.Lib.hid ((Below.refl _ w).grown hg2 (Nat.le_refl _) (fun k hk => by cases hk))
    have HO2 := Go.Lib.hid hown2
    clear hown2 hg2 CG
    go_loopw [5, 7, 30] (fun at' sv i wr => ∃ (k q : Nat) (u : Value) (L : List RecT), u = sv ∧ k ≤ N ∧ q ≤ b.length ∧ i = .int .i64 (k : Int) ∧ at' = .int .i64 (q : Int) ∧ Hid (seqD k (b.drop p) = some (L, b.drop q)) ∧ OwnRec wr w.heap.size u L ∧ Below w.heap.size w wr) (fun _ _ i _ => N - (intOf i).toNat)
    case atStart => exact ⟨0, p, _, [], rfl, by omega, f1, rfl, rfl, Go.Lib.hid rfl, HO2.out, HB2.out⟩
    case round =>
      obtain ⟨k, q, u, L, rfl, hk, hq, rfl, rfl, hs, hown, hbc⟩ := hrel
      by_cases hlt : k < N
      · have hltI : (k : Int) < (N : Int) := by omega
        have hLn : L.length = k := (seqD_ok _ _ _ _ hs.out).1
        rcases hrd : readB (b.drop q) with ⟨⟨yk, yg, ya, yn, ys⟩, m, e2⟩
        have C1 := fun v' W (h : RB W v' (b.drop q)) => pget_c v' (b.drop q) W h
        rw [hrd] at C1
        unfold rr recV at C1
        simp only [] at C1
        have hRB := HV.out.below hbc
        have HBC := Go.Lib.hid hbc
        have HO := Go.Lib.hid hown
        have Hlt := Go.Lib.hid hlt
        by_cases he : e2 = 0
        · subst he
          have hst := Go.Lib.hid (seqD_step hs.out hrd)
          have hml := (readB_canon hrd).2.2.2
          rw [List.length_drop] at hml
          unfold unR at hst
          simp only [] at hst
          generalize str yk = ks at *
          generalize str ys = ss at *
          have CP := Go.Lib.hid C1
          have hadd : IntKind.i64.wrap ((q : Int) + (m : Int)) = ((q + m : Nat) : Int) := by rw [IntKind.wrap_i64]; omega
          have hqm : q + m ≤ b.length := by omega
          have Hqm := Go.Lib.hid hqm
          have Hadd := Go.Lib.hid hadd
          clear C1 hrd hs hbc hown hlt hml hqm hadd
          go_wp2_with (first
            | (with_reducible show wpList _ _ _ (⟨some 35, _, _, _, _, _⟩ :: _) _ _; go_loud (refine wpList_slice_l rfl (.tmp 33) (.tmp 34) 25 rfl 5 Try.underlying25 info8 (.slice a b.length c) b .i64 _ q rfl rfl rfl hRB hq ?_); intro v3 hv3)
            | fail)
          refine (CP.out _ _ hv3).mono ?_
          rintro e w4 ⟨rfl, hb4⟩
          have hb5 := below_one w4 (.cells #[.string ks, .bool yg, .int .i64 ya, .int .i64 yn, .string ss] 38)
          have hb6 := below_two w4 (.cells #[.string ks, .bool yg, .int .i64 ya, .int .i64 yn, .string ss] 38) (.cells #[.string ks, .bool yg, .int .i64 ya, .int .i64 yn, .string ss] 38)
          have HB6 := Go.Lib.hid (below_to (below_to HBC.out (Nat.le_refl _) hb4) (Nat.le_refl _) hb6)
          have HO6 := Go.Lib.hid ((HO.out.below hb4).below hb6)
          obtain ⟨x0, x1, x2, x3, x4⟩ := row5 (heap_alloc_new w4 (.cells #[.string ks, .bool yg, .int .i64 ya, .int .i64 yn, .string ss] 38))
          have hone := RS.one (w4.alloc (.cells #[.string ks, .bool yg, .int .i64 ya, .int .i64 yn, .string ss] 38)) (ks, yg, ya, yn, ss)
          simp only [] at hone
          have hsz : (w4.alloc (.cells #[.string ks, .bool yg, .int .i64 ya, .int .i64 yn, .string ss] 38)).heap.size = w4.heap.size + 1 := by simp
          rw [hsz] at hone
          have HX := Go.Lib.hid hone
          have hadd := Hadd.out
          have HLn := Go.Lib.hid (show L.length + ([(ks, yg, ya, yn, ss)] : List RecT).length ≤ 1000000 by rw [hLn]; simp; omega)
          clear hb4 hb5 hb6 HBC HO hone hsz CP hv3 hRB hLn
          go_wp2_with (first
            | (with_reducible show wpList _ _ _ (⟨some 45, _, _, _, _, _⟩ :: _) _ _; go_loud (refine wpList_append_recs rfl (.tmp 42) (.tmp 44) rfl w.heap.size u (.slice (some ⟨w4.heap.size + 1, 0, none⟩) 1 1) L [(ks, yg, ya, yn, ss)] rfl rfl HO6.out HX.out HLn.out HB6.out.size ?_); intro v7 w7 hown7 hg7; have HB7 := Go.Lib.hid (HB6.out.grown hg7 HB6.out.size HO6.out.row); have HO7 := Go.Lib.hid hown7; clear hown7 hg7 x0 x1 x2 x3 x4)
            | fail)
          go_roundw
          case rel => exact ⟨k + 1, q + m, _, _, rfl, by have := Hlt.out; omega, Hqm.out, by go_num, rfl, Go.Lib.hid (by rw [hst.out, List.drop_drop]), HO7.out, HB7.out⟩
          case measure => simp only [intOf]; have := Hlt.out; omega
        · have heb : (e2 == 0) = false := by simp [he]
          have K := Go.Lib.hid (show rowD b = none by
            have h1 := seqD_none (seqD_stop hs.out hrd he) (N - (k + 1))
            rw [show k + 1 + (N - (k + 1)) = N by omega] at h1
            rw [HD.out, h1])
          generalize str yk = ks at *
          generalize str ys = ss at *
          have CP := Go.Lib.hid C1
          clear C1 hrd hs hbc hown hlt he
          go_wp2_with (first
            | (with_reducible show wpList _ _ _ (⟨some 35, _, _, _, _, _⟩ :: _) _ _; go_loud (refine wpList_slice_l rfl (.tmp 33) (.tmp 34) 25 rfl 5 Try.underlying25 info8 (.slice a b.length c) b .i64 _ q rfl rfl rfl hRB hq ?_); intro v3 hv3)
            | fail)
          refine (CP.out _ _ hv3).mono ?_
          rintro e w4 ⟨rfl, hb4⟩
          have hb6 := below_one w4 (.cells #[.string ks, .bool yg, .int .i64 ya, .int .i64 yn, .string ss] 38)
          have HB6 := Go.Lib.hid (below_to (below_to HBC.out (Nat.le_refl _) hb4) (Nat.le_refl _) hb6)
          clear hb4 hb6 HBC HO CP hv3 hRB hLn
          go_wp2_with fail
          go_ret2
          exact ⟨.inl ⟨K.out, rfl⟩, HB6.out⟩
      · obtain rfl : k = N := by omega
        have HB := Go.Lib.hid hbc
        by_cases hend : q < b.length
        · have K := Go.Lib.hid (show rowD b = none by
            rw [HD.out, hs.out]
            have hne : b.drop q ≠ [] := by
              intro h
              have := congrArg List.length h
              rw [List.length_drop, List.length_nil] at this
              omega
            cases hd : b.drop q with
            | nil => exact absurd hd hne
            | cons _ _ => rfl)
          have hI : (q : Int) < (b.length : Int) := by omega
          clear hs hown hbc hlt
          go_wp2_with fail
          go_ret2
          exact ⟨.inl ⟨K.out, rfl⟩, HB.out⟩
        · have K := Go.Lib.hid (show rowD b = some L by
            rw [HD.out, hs.out, List.drop_of_length_le (by omega)])
          have hI : ¬ (q : Int) < (b.length : Int) := by omega
          have HO := Go.Lib.hid hown
          clear hs hown hbc hlt
          go_wp2_with fail
          go_ret2
          exact ⟨.inr ⟨_, _, K.out, rfl, HO.out⟩, HB.out⟩

theorem bdecode_no {v : Value} {b : List UInt8} {w : World} (hv : RB w v b) (h : rowD b = none) :
    Calls Try.prog 15 #[v] w fun e w' => e = .returned (.tuple #[.slice none 0 0, .int .i64 8]) ∧ Below w.heap.size w w' :=
  (bdecode_any v b w hv).mono fun e w' ⟨hq, hb⟩ => by
    rcases hq with ⟨-, he⟩ | ⟨l, v', hd, -⟩
    · exact ⟨he, hb⟩
    · rw [h] at hd; cases hd
theorem bdecode_c {v : Value} {b : List UInt8} {w : World} {l : List RecT} (hv : RB w v b) (h : rowD b = some l) :
    Calls Try.prog 15 #[v] w fun e w' => ∃ v', e = .returned (.tuple #[v', .int .i64 0]) ∧ OwnRec w' w.heap.size v' l ∧ Below w.heap.size w w' :=
  (bdecode_any v b w hv).mono fun e w' ⟨hq, hb⟩ => by
    rcases hq with ⟨hn, -⟩ | ⟨l', v', hd, he, ho⟩
    · rw [h] at hn; cases hn
    · rw [h] at hd; cases hd; exact ⟨v', he, ho, hb⟩

end Go.Proofs.Ytoaiogfeffnlcaa
