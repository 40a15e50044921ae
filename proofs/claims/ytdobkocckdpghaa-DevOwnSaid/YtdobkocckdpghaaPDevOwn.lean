/- DevOwn: what is handed in and told is nobody else's; the elder device stays: for every input the law returns true. -/
import Derived.Test.YtdobkocckdpghaaRows
import Derived.WalkKit
import Derived.ProofKit
import Derived.OpenShut
import Derived.ShutString
import Derived.ChangeOld
import Derived.Below
import Derived.Test.YtdobkocckdpghaaBegun11
import Derived.Test.YtdobkocckdpghaaShort
import Derived.Test.YtdobkocckdpghaaDraw
import Derived.Test.YtdobkocckdpghaaHead
import Derived.LoopTactic
namespace Go.Proofs.Ytdobkocckdpghaa.devOwn
open Go.ChangeShapes Go.WideShapes Go.ChangeAt Go.RowKit
open Go.ChangeMaps (open_string shut_string)
set_option linter.unusedVariables false

theorem own : ownKnob Try.prog.godebug = none := by kernel_rfl
theorem laidOut : laidOutB Try.prog = true := by kernel_rfl

/-- WHAT THE WALK IS TOLD OF A SLICE OF INTEGERS THAT CAME IN: it is nil; or it leads to a row of 'cap' cells, the numbers 'zs' (the first 'len' are its elements, the rest its spare room), each fitting its kind. -/
def IsRow (k : IntKind) (w : World) (a : Option Addr) (len cap : Nat) (zs : List Int) : Prop :=
  (a = none ∧ len = 0 ∧ cap = 0 ∧ zs = []) ∨
  ∃ x, a = some x ∧ len ≤ cap ∧ cap ≤ maxLen ∧ zs.length = cap ∧ (∀ i, i < zs.length → w.cell? (x.add i) = some (.int k (zs.getD i 0))) ∧ ∀ n ∈ zs, (Lit.int k n).wf = true

open Go.Lib (hid)
theorem str_app (l m : List UInt8) : str l ++ str m = str (l ++ m) := by
  apply ByteArray.ext
  simp [str]
theorem own_two {e : TypeId} {w w' : World} {B d g : Nat} {v : Value} {l : List UInt8} (h : Own e w B v l) (hk : Two d (some g) w w') (hn : ∀ q, v.ownBlock = some q → q ≠ d ∧ q ≠ g) : Own e w' B v l := by
  refine ⟨h.1, ?_⟩
  rcases h.2 with h' | ⟨q, cap, cur, e1, hB, e2, e3⟩
  · exact .inl h'
  · subst e1
    obtain ⟨h1, h2⟩ := hn q rfl
    exact .inr ⟨q, cap, cur, rfl, hB, (hk.block q (Array.getElem?_eq_some_iff.1 e2).1 h1 (by simpa using h2)).trans e2, e3⟩
theorem dv_far {w : World} {B d g n : Nat} {S : Nat → Sec} {L : Life} (h : DV w B d g n S L) {p : Addr} (h1 : d ≠ p.block) (h2 : g ≠ p.block) (u : Value) : DV (w.setCell p u) B d g n S L :=
  h.same (Below.heap_setCell _ _ _ _ h1) (Below.heap_setCell _ _ _ _ h2)
theorem byte_wrap (x : UInt8) : ((x.toNat : Int) + 1) % 256 = ((x + 1).toNat : Int) := by
  rw [UInt8.toNat_add]
  simp
def V7 (ba : Option Addr) (n bcap m : Nat) (tL tZ tX : ByteArray) : Nat → World → Value → Prop
  | 23, _, v => v = .slice ba n bcap
  | 24, _, v => v = .string tL
  | 25, _, v => v = .slice ba n bcap
  | 26, _, v => v = .int .i64 (n : Int)
  | 27, _, v => v = .int .i64 (m : Int)
  | 28, w, v => RB w v (List.replicate m 0)
  | 29, _, v => v = .string tZ
  | 30, _, v => v = .string tX
  | 5, _, v => v = .string tX
  | _, _, _ => True

theorem V7_below (ba : Option Addr) (n bcap m : Nat) (tL tZ tX : ByteArray) : ∀ (i : Nat) (w w' : World) (v : Value), V7 ba n bcap m tL tZ tX i w v → Below w.heap.size w w' → V7 ba n bcap m tL tZ tX i w' v := by
  intro i w w' v h hb
  unfold V7 at h ⊢
  split at h <;> first | exact h | trivial | exact RB.below h hb | exact Own.below h hb

theorem zeros_drop (n : Nat) : zeros.drop n = List.replicate (64 - n) 0 := by unfold zeros; rw [List.drop_replicate]
theorem looseOwn (L : List UInt8) : looseL (lf (wrS newS 0 L)) 2 = [0] := rfl

set_option maxHeartbeats 2000000 in
set_option maxRecDepth 100000 in
theorem walk (a0 : Option Addr) (len0 cap0 : Nat) (z0 : List Int) (w : World) (w0 : IsRow .u8 w a0 len0 cap0 z0) :
    Calls Try.prog 4 #[.slice a0 len0 cap0] w fun e w' => e = .returned (.bool true) ∧ Below w.heap.size w w' := by
  obtain ⟨l, hl⟩ := rb_of_row w0
  clear w0
  have HL := hid hl; clear hl
  go_enter Try.func4, Try.ntmps4
  go_wp2_with fail
  refine (begun_c _).mono ?_
  rintro e w1 ⟨rfl, k1⟩
  have HL1 := hid (HL.out.below k1)
  have K1 := hid k1; clear k1 HL
  go_wp2_with fail
  refine (short_c _ l 64 _ HL1.out (by omega)).mono ?_
  rintro e w2 ⟨⟨v, rfl, hv⟩, rfl⟩
  have hl64 : (l.take 64).length ≤ 64 := List.length_take_le _ _
  generalize l.take 64 = L at hv hl64
  clear HL1
  go_wp2_with (first
    | (with_reducible show wpList _ _ _ (⟨some 18, _, _, _, _, _⟩ :: _) _ _; go_must (refine wpList_append_RB rfl (.const (.slice none 0 0)) (.tmp 17) 31 rfl w1.heap.size 5 Try.underlying31 info8 (.slice none 0 0) v [] L rfl rfl (Own.nil _ _ _) hv (by simp; omega) (Nat.le_refl _) ?_); intro vb w3 hown hg; rw [List.nil_append] at hown)
    | fail)
  have hb3 := grown_below hg (Nat.le_refl _) (by simp [Value.ownBlock])
  have K3 := hid (K1.out.trans (hb3.mono K1.out.size))
  have hBl := hid hb3.size
  have HOWN := hid (hown.mono K1.out.size)
  clear hown hg hb3 hv
  refine (dnew_c 2 _).mono ?_
  rintro e w4 ⟨d, g, rfl, hd4, hb4⟩
  rw [show lenD 2 = 2 from rfl] at hd4
  have K4 := hid (K3.out.trans (hb4.mono K3.out.size))
  have hblt := hid (show ∀ q, vb.ownBlock = some q → q < w3.heap.size from fun q hq => (World.ownsRow.lt HOWN.out q hq).2)
  have HOW4 := hid (HOWN.out.below hb4)
  have HD4 := hid hd4
  clear hd4 hb4 HOWN
  go_wp2_with fail
  refine (dwrite_c HD4.out rfl (by decide) 0 (by omega) _ L HOW4.out.rb hl64).mono ?_
  rintro e w5 ⟨rfl, hd5, ht5⟩
  have K5 := hid (K4.out.trans (ht5.below HD4.out.lowd (fun k hk => by cases hk; exact HD4.out.lowg) (by have := K4.out.size; have := HD4.out.lowd; have := HD4.out.lt; omega) |>.mono K3.out.size))
  have HOW0 := hid (own_two HOW4.out ht5 (fun q hq => by have := hblt.out q hq; have := HD4.out.lowd; have := HD4.out.lowg; exact ⟨by omega, by omega⟩))
  have HD5 := hid hd5
  have hB3 := hid K3.out.size
  clear ht5 HD4 HOW4 K4 K3 K1 hd5
  obtain ⟨ba, bcap, rfl, -, -, -⟩ := id HOW0.out.rb
  obtain ⟨n, hn⟩ : ∃ n, n = L.length := ⟨_, rfl⟩
  rw [← hn] at HOW0 hblt hl64
  have HOW : Go.RowKit.Hid (Own 5 w5 w.heap.size (.slice ba n bcap) L) := HOW0
  clear HOW0
  have HN := hid hn; clear hn
  rw [← HN.out]
  obtain ⟨m, hm⟩ : ∃ m : Nat, 64 - (n : Int) = (m : Int) := ⟨64 - n, by omega⟩
  obtain ⟨tL, hL⟩ : ∃ t, str L = t := ⟨_, rfl⟩
  obtain ⟨tZ, hZ⟩ : ∃ t, str (List.replicate m 0) = t := ⟨_, rfl⟩
  obtain ⟨tX, hX⟩ : ∃ t, tL ++ tZ = t := ⟨_, rfl⟩
  have hXE := hid (show tX = str ((wrS newS 0 L) 0).now from by
    rw [← hX, ← hL, ← hZ, str_app]
    show _ = str (over zeros L)
    unfold over
    rw [zeros_drop, ← HN.out, show m = 64 - n from by omega])
  have hXs : tL.size + tZ.size ≤ 9223372036854775807 := by rw [← hL, ← hZ, str_size, str_size, List.length_replicate, ← HN.out]; omega
  have hm64 : m ≤ 64 := by omega
  have hmw : IntKind.i64.wrap (m : Int) = (m : Int) := by rw [IntKind.wrap_i64]; omega
  go_wp2_with fail
  refine wp_region_each (by kernel_rfl) (V7 ba n bcap m tL tZ tX) (V7_below ba n bcap m tL tZ tX) (by decide +kernel) (by decide +kernel) (by rfl) [23, 24, 25, 26, 27, 28, 29, 30, 5] (by rfl) ?_ ?_
  · intro i o ho a w6 hb6 hlen hg
    have cvB := run_string_RB w6 31 5 9 Try.underlying31 Try.underlying5 Try.underlying9 (.slice ba n bcap) L (HOW.out.rb.below hb6)
    rw [hL] at cvB
    match i, ho with
    | 0, ho =>
      obtain rfl := Option.some.inj ho
      have h0 := given_old hg 0 (by decide +kernel)
      clear hg
      exact st_yield ho (wanted_none rfl) (.slice ba n bcap) w6 (by simp [execOp, Act.eval, h0, go_sem]) ⟨_, rfl, Below.refl _ _, by rintro t' ⟨⟩; rfl⟩
    | 1, ho =>
      obtain rfl := Option.some.inj ho
      obtain ⟨_, h23, rfl⟩ := given_fed hg 23 (by decide +kernel)
      clear hg
      exact st_yield ho (wanted_none rfl) (.string tL) w6 (by simp [execOp, Act.eval, h23, go_sem, cvB]) ⟨_, rfl, Below.refl _ _, by rintro t' ⟨⟩; rfl⟩
    | 2, ho =>
      obtain rfl := Option.some.inj ho
      have h0 := given_old hg 0 (by decide +kernel)
      clear hg
      exact st_yield ho (wanted_none rfl) (.slice ba n bcap) w6 (by simp [execOp, Act.eval, h0, go_sem]) ⟨_, rfl, Below.refl _ _, by rintro t' ⟨⟩; rfl⟩
    | 3, ho =>
      obtain rfl := Option.some.inj ho
      obtain ⟨_, h25, rfl⟩ := given_fed hg 25 (by decide +kernel)
      clear hg
      exact st_yield ho (wanted_none rfl) (.int .i64 (n : Int)) w6 (by simp [execOp, Act.eval, h25, go_sem, resolve, invoke, builtin]) ⟨_, rfl, Below.refl _ _, by rintro t' ⟨⟩; rfl⟩
    | 4, ho =>
      obtain rfl := Option.some.inj ho
      obtain ⟨_, h26, rfl⟩ := given_fed hg 26 (by decide +kernel)
      clear hg
      exact st_yield ho (wanted_none rfl) (.int .i64 (m : Int)) w6 (by simp [execOp, Act.eval, h26, go_sem, hm, hmw]) ⟨_, rfl, Below.refl _ _, by rintro t' ⟨⟩; rfl⟩
    | 5, ho =>
      obtain rfl := Option.some.inj ho
      obtain ⟨_, h27, rfl⟩ := given_fed hg 27 (by decide +kernel)
      clear hg
      exact st_list ho (wanted_none rfl) fun Q' hQ => wpList_make_len rfl (.tmp 27) (.tmp 27) 31 rfl 5 Try.underlying31 info8 .i64 .i64 (m : Int) (m : Int) m m (by simp [Act.eval, h27]) (by simp [Act.eval, h27]) rfl rfl (Nat.le_refl _) (by omega) (fun v' w' hown hg => wpList_nil (hQ _ _ ⟨v', rfl, grown_below hg (Nat.le_refl _) (by simp), by rintro t' ⟨⟩; exact hown.rb⟩))
    | 6, ho =>
      obtain rfl := Option.some.inj ho
      obtain ⟨v28, h28, p28⟩ := given_fed hg 28 (by decide +kernel)
      clear hg
      have cv := run_string_RB w6 31 5 9 Try.underlying31 Try.underlying5 Try.underlying9 v28 _ p28
      rw [hZ] at cv
      exact st_yield ho (wanted_none rfl) (.string tZ) w6 (by simp [execOp, Act.eval, h28, go_sem, cv]) ⟨_, rfl, Below.refl _ _, by rintro t' ⟨⟩; rfl⟩
    | 7, ho =>
      obtain rfl := Option.some.inj ho
      obtain ⟨_, h24, rfl⟩ := given_fed hg 24 (by decide +kernel)
      obtain ⟨_, h29, rfl⟩ := given_fed hg 29 (by decide +kernel)
      clear hg
      exact st_yield ho (wanted_none rfl) (.string tX) w6 (by simp [execOp, Act.eval, h24, h29, go_sem, hX, Nat.not_lt.2 hXs]) ⟨_, rfl, Below.refl _ _, by rintro t' ⟨⟩; rfl⟩
    | 8, ho =>
      obtain rfl := Option.some.inj ho
      obtain ⟨_, h30, rfl⟩ := given_fed hg 30 (by decide +kernel)
      clear hg
      exact st_yield ho (wanted_none rfl) (.string tX) w6 (by simp [execOp, Act.eval, h30, go_sem]) ⟨_, rfl, Below.refl _ _, by rintro t' ⟨⟩; rfl⟩
    | n + 9, ho => simp at ho
  intro f w6 hb6 hv
  have h5 := hv 5 (by decide)
  simp only [V7] at h5
  have K6 := hid (K5.out.trans (hb6.mono K5.out.size))
  have HO6 := hid (HOW.out.below hb6)
  have HD6 := hid (HD5.out.below hb6)
  clear hv hb6 K5 HOW HD5
  clear hL hZ hX hXs hmw
  unfold putAll
  simp only [List.foldl]
  simp only [h5]
  go_simp
  go_wp2_with fail
  have hnI : (n : Int) ≤ 64 := by omega
  go_loopw [33] (fun c wr => ∃ (k : Nat) (M : List UInt8), k ≤ n ∧ c = .int .i64 (k : Int) ∧ M.length = n ∧ Own 5 wr w.heap.size (.slice ba n bcap) M ∧ DV wr w3.heap.size d g 2 (wrS newS 0 L) born.tick ∧ Below w.heap.size w wr) (fun c _ => n - (intOf c).toNat)
  case atStart => exact ⟨0, L, by omega, rfl, HN.out.symm, HO6.out, HD6.out, K6.out⟩
  case round =>
    obtain ⟨k, M, hk, rfl, hM, hown, hdv, hbw⟩ := hrel
    clear HO6 HD6 K6
    by_cases hkn : k < n
    · obtain ⟨bg, bc, hv, hbB, hbl, -, -, -⟩ := hown.form (by omega)
      simp only [Value.slice.injEq] at hv
      obtain ⟨rfl, -, rfl⟩ := hv
      have hbg := hid (hblt.out bg rfl)
      have hcell := hown.cell k (by omega)
      have hfr := hown.frozenAt k
      have hst := hid (hown.store k (M[k] + 1) _ (byte_wrap M[k]))
      have hdv2 := hid (dv_far hdv (p := ⟨bg, k, none⟩) (by have := hbg.out; have := hdv.lowd; show d ≠ bg; omega) (by have := hbg.out; have := hdv.lowg; show g ≠ bg; omega) (.int .u8 (((M[k].toNat : Int) + 1) % 256)))
      have hb2 := hid (hbw.setCell (p := ⟨bg, k, none⟩) hbB (.int .u8 (((M[k].toNat : Int) + 1) % 256)))
      have hkI : (k : Int) < (n : Int) := by omega
      have HW := hid (show (k : Int) + 1 = ((k + 1 : Nat) : Int) from by omega)
      have HM := hid (show (M.set k (M[k] + 1)).length = n from by rw [List.length_set, hM])
      have hx256 := M[k].toNat_lt
      generalize M[k] + 1 = y at *
      generalize M[k] = x at *
      clear hown hdv hbw hbB hbl hM
      go_wp2_with fail
      go_roundw
      case rel => exact ⟨k + 1, _, by omega, by rw [HW.out], HM.out, hst.out, hdv2.out, hb2.out⟩
      case measure => simp only [intOf]; omega
    · obtain rfl : k = n := by omega
      have CR := hid (dread_c (hdv.mono (B' := w.heap.size) hB3.out) 0 (by omega))
      have HD := hid hdv
      have HB := hid hbw
      clear hown hdv hbw
      go_wp2_with fail
      refine CR.out.mono ?_
      rintro e w7 ⟨x, rfl, hx7, hb7⟩
      have hx64 : ((wrS newS 0 L) 0).now.length = 64 := (HD.out.row.whole 0 (by omega)).1
      obtain ⟨xg, xc, rfl, hxB, -, -, -, -⟩ := hx7.form (by omega)
      rw [hx64] at hx7 ⊢
      have HX7 := hid hx7
      have HD7 := hid (HD.out.below hb7)
      have HB7 := hid (HB.out.trans (hb7.mono HB.out.size))
      have hxd := hid (show d ≠ xg from by have := HD.out.lt; omega)
      have hxgg := hid (show g ≠ xg from by have := HD.out.ltg; omega)
      have hxw := hid (show w.heap.size ≤ xg from Nat.le_trans HB.out.size hxB)
      have HL := hid hx64
      clear CR hx7 hb7 HD HB hxB hx64
      go_wp2_with fail
      go_loopw [50] (fun c wx => ∃ (q : Nat) (M : List UInt8) (B7 : Nat), q ≤ 64 ∧ c = .int .i64 (q : Int) ∧ M.length = 64 ∧ Own 5 wx B7 (.slice (some ⟨xg, 0, none⟩) 64 xc) M ∧ DV wx w3.heap.size d g 2 (wrS newS 0 L) born.tick ∧ Below w.heap.size w wx) (fun c _ => 64 - (intOf c).toNat)
      case atStart => exact ⟨0, _, _, by omega, rfl, HL.out, HX7.out, HD7.out, HB7.out⟩
      case round =>
        obtain ⟨q, M, B7, hq, rfl, hM, hown, hdv, hbw⟩ := hrel
        clear HX7 HD7 HB7
        by_cases hq64 : q < 64
        · have hcell := hown.cell q (by omega)
          have hfr := hown.frozenAt q
          have hst := hid (hown.store q (M[q] + 1) _ (byte_wrap M[q]))
          have hdv2 := hid (dv_far hdv (p := ⟨xg, q, none⟩) hxd.out hxgg.out (.int .u8 (((M[q].toNat : Int) + 1) % 256)))
          have hb2 := hid (hbw.setCell (p := ⟨xg, q, none⟩) hxw.out (.int .u8 (((M[q].toNat : Int) + 1) % 256)))
          have hqI : (q : Int) < 64 := by omega
          have HW := hid (show (q : Int) + 1 = ((q + 1 : Nat) : Int) from by omega)
          have HM := hid (show (M.set q (M[q] + 1)).length = 64 from by rw [List.length_set, hM])
          have hx256 := M[q].toNat_lt
          generalize M[q] + 1 = y at *
          generalize M[q] = x at *
          clear hown hdv hbw hM
          go_wp2_with fail
          go_roundw
          case rel => exact ⟨q + 1, _, _, by omega, by rw [HW.out], HM.out, hst.out, hdv2.out, hb2.out⟩
          case measure => simp only [intOf]; omega
        · obtain rfl : q = 64 := by omega
          have hdv := hdv.alloc (.cells #[.bool true] 4)
          have CC := hid (dcrash_c hdv _ [true] (RV.zbOne wr 4 true))
          have HD := hid hdv
          have HB := hid (hbw.trans ((below_new wr (.cells #[.bool true] 4)).mono hbw.size))
          clear hdv hbw hown
          go_wp2_with fail
          refine CC.out.mono ?_
          rintro e w8 ⟨d8, g8, rfl, he8, hb8⟩
          have HD8 := hid ((HD.out.below hb8).alloc (.cells #[.int .u8 1, .int .u8 2, .int .u8 3] 5))
          have HE8 := hid (he8.alloc (.cells #[.int .u8 1, .int .u8 2, .int .u8 3] 5))
          have HB8 := hid ((HB.out.trans (hb8.mono HB.out.size)).trans ((below_new w8 (.cells #[.int .u8 1, .int .u8 2, .int .u8 3] 5)).mono (Nat.le_trans HB.out.size hb8.size)))
          have hr8 := hid (RB.lits w8 5 (0, 0) [1, 2, 3] #[.int .u8 1, .int .u8 2, .int .u8 3] 3 rfl rfl (by decide))
          have hdl := hid HD.out.lt
          have hgl := hid HD.out.ltg
          have hle := hid HB.out.size
          clear CC HD HB he8 hb8
          go_wp2_with fail
          refine (dwrite_c HE8.out rfl (by decide) 0 (by omega) _ [1, 2, 3] hr8.out (by decide)).mono ?_
          rintro e w9 ⟨rfl, he9, ht9⟩
          have a1 := HE8.out.lowd
          have a2 := HE8.out.lowg
          have a3 := hdl.out
          have a4 := hgl.out
          have HD9 := hid (HD8.out.two ht9 (by omega) (by omega) (by omega) (by omega))
          have HB9 := hid (HB8.out.trans (ht9.below (B := w.heap.size) (by have := hle.out; omega) (fun k hk => by cases hk; have := hle.out; omega) HB8.out.size))
          clear a1 a2 a3 a4 he9 ht9 HE8 HD8 HB8 hr8 hdl hgl hle
          have CY := hid (dread_c HD9.out 0 (by omega))
          go_wp2_with fail
          refine CY.out.mono ?_
          rintro e wa ⟨y, rfl, hy, hba⟩
          have hsy := run_string_RB wa 31 5 9 Try.underlying31 Try.underlying5 Try.underlying9 y _ hy.rb
          rw [← hXE.out] at hsy
          have CL := hid (dloose_c (HD9.out.below hba))
          rw [looseOwn] at CL
          have HBA := hid (HB9.out.trans (hba.mono HB9.out.size))
          clear CY hy hba HD9 HB9
          go_wp2_with fail
          refine CL.out.mono ?_
          rintro e wb ⟨v9, rfl, ho9, hb9⟩
          obtain ⟨va, vc, rfl, -⟩ := ho9.rv.form
          rw [show (zi .i64 [0]).length = 1 from rfl]
          have HBB := hid (HBA.out.trans (hb9.mono HBA.out.size))
          clear CL ho9 hb9
          go_wp2_with fail
          go_ret
          exact ⟨rfl, HBB.out⟩

/-! ### THE ROW's STEP: WRITTEN OUT: LEAVE IT -/
set_option maxRecDepth 100000 in
theorem lifted (os : Os) (started : os.Started) (H : Type) (enc : TypeId × Value → H) :
    ReturnsInHanded {} Try.checked os 4 .any (Rows.devOwnSpec.pre6 enc Try.prog Try.f4 Rows.devOwnRow.domain false) (Rows.devOwnSpec.post enc Try.prog Try.f4 false true false false) := by
  refine returnsInHanded_of_change (C := Try.checked) own started (by kernel_rfl) Try.func4
    (ChangeSpec.witness6 (enc := enc) (C := Try.checked) false ⟨#[], #[.slice none 0 0], []⟩ 8 (by kernel_rfl) (by kernel_rfl) (by kernel_rfl) (by kernel_rfl)) ?_
  intro W base args ds gs before hval0 hW hcnd _
  have hval : ∀ (j : Nat) t v, Try.f4.params[j]? = some t → args[j]? = some v → Value.okWide Try.prog W .any base t v := hval0
  have hW' := hW
  obtain ⟨p, q, hA0, hV, rfl, hfz, hnd⟩ := hW
  have hA : DataW.TrodAll enc Try.prog W 0 (fun _ => true) true Try.f4.params.toList args.toList ds p := hA0
  rw [Try.params4] at hA hval
  obtain ⟨v0, vs0, d0, ds0, p0, q0, hargs, rfl, rfl, h0, r0⟩ := trodAll_cons hA
  obtain ⟨rfl, rfl, rfl⟩ := trodAll_nil r0
  obtain rfl : args = #[v0] := by cases args; simp_all
  obtain ⟨rfl, rfl⟩ := trodVars_none hV
  obtain ⟨a0, len0, cap0, rfl⟩ := okWide_slice Try.underlying31 (hval 0 31 v0 rfl rfl)
  have k0 := h0
  have lt0 : ∀ x ∈ p0, x.block < W.heap.size := by obtain ⟨m, hm⟩ := k0; exact DataW.trod_lt m _ _ _ hm
  obtain ⟨z0, w0⟩ : ∃ zs, IsRow .u8 W a0 len0 cap0 zs := by
    obtain ⟨fuel, hf⟩ := h0
    rcases open_ints Try.underlying31 Try.underlying5 (by kernel_rfl) hf with ⟨hcs, _⟩ | ⟨x, l, c, zs, hcs, _, hl, hm, hz, _, hcell, hwz⟩
    · simp [Value.cells] at hcs
      obtain ⟨rfl, rfl, rfl⟩ := hcs
      exact ⟨[], .inl ⟨rfl, rfl, rfl, rfl⟩⟩
    · simp [Value.cells] at hcs
      obtain ⟨rfl, rfl, rfl⟩ := hcs
      exact ⟨zs, .inr ⟨_, rfl, hl, hm, by simpa using hz, hcell, hwz⟩⟩
  clear hA0 hval0
  refine (walk a0 len0 cap0 z0 W w0).mono fun e W' ⟨he, bel⟩ => ?_
  subst he
  exact ⟨_, rfl, _, _, _, [], _, [], hW', trodAll_mk1 (shut_bool Try.underlying4 _), (trodAll_cons_mk (Below.trod laidOut (by kernel_rfl) (of_decide_eq_true (by kernel_rfl)) k0 bel lt0) trodAll_mk0), rfl, bel.frame _, fun h => by cases h⟩

theorem over : Rows.devOwnRow.holds Try.pinned (OpenSpec.ofChange Rows.devOwnSpec) :=
  OpenClaim.holds_of_wide 4 Try.f4 rfl rfl rfl rfl rfl rfl rfl ⟨rfl, rfl, rfl, rfl, rfl⟩ rfl rfl rfl rfl rfl (by kernel_rfl) Try.func4 (by kernel_rfl)
    (of_decide_eq_true (by kernel_rfl)) (by unfold Func.isWrapper; first | (rw [if_pos (by decide +kernel)]; kernel_rfl) | (rw [if_neg (by decide +kernel)]; exact ⟨rfl, rfl⟩))
    (fun os started H enc _ => lifted os started H enc)

/-- ████ THE STATEMENT ████ -/
theorem proved : Rows.DevOwnSaid := over
#print axioms proved
end Go.Proofs.Ytdobkocckdpghaa.devOwn
