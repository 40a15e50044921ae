/- RecordAny: any bytes begin with a record, or not; those of one that were changed, too: for every input the law returns true. -/
import Derived.Test.YtafpbhkddodjoaaRows
import Derived.WalkKit
import Derived.ProofKit
import Derived.OpenShut
import Derived.ShutString
import Derived.ChangeOld
import Derived.Below
import Derived.Test.YtafpbhkddodjoaaM01
import Derived.Test.YtafpbhkddodjoaaM18
import Derived.Test.YtafpbhkddodjoaaM14
import Derived.Test.YtafpbhkddodjoaaM20
import Derived.Test.YtafpbhkddodjoaaM21
import Derived.Test.YtafpbhkddodjoaaM13
import Derived.Deep.DeepCutAuto
namespace Go.Proofs.Ytafpbhkddodjoaa.recordAny
open Go.ChangeShapes Go.WideShapes Go.ChangeAt Go.RowKit
open Go.ChangeMaps (open_string shut_string)
set_option linter.unusedVariables false

theorem own : ownKnob Try.prog.godebug = none := by kernel_rfl
theorem laidOut : laidOutB Try.prog = true := by kernel_rfl

def IsRow (k : IntKind) (w : World) (a : Option Addr) (len cap : Nat) (zs : List Int) : Prop :=
  (a = none ∧ len = 0 ∧ cap = 0 ∧ zs = []) ∨
  ∃ x, a = some x ∧ len ≤ cap ∧ cap ≤ maxLen ∧ zs.length = cap ∧ (∀ i, i < zs.length → w.cell? (x.add i) = some (.int k (zs.getD i 0))) ∧ ∀ n ∈ zs, (Lit.int k n).wf = true

def W4 (a0 : Option Addr) (len0 m0 cap0 : Nat) (y1 : ByteArray) (g1 : Bool) (k1 n1 : Int) (s1 ks ts : ByteArray) : Nat → World → Value → Prop
  | 14, _, v => v = .slice a0 len0 cap0
  | 15, _, v => v = .slice a0 m0 cap0
  | 16, _, v => v = .agg #[.string y1, .bool g1, .int .i64 k1, .int .i64 n1, .string s1]
  | 17, _, v => v = .agg #[.string ks, .bool g1, .int .i64 k1, .int .i64 n1, .string ts]
  | _, _, _ => True

theorem W4_below (a0 : Option Addr) (len0 m0 cap0 : Nat) (y1 : ByteArray) (g1 : Bool) (k1 n1 : Int) (s1 ks ts : ByteArray) : ∀ (i : Nat) (w w' : World) (v : Value), W4 a0 len0 m0 cap0 y1 g1 k1 n1 s1 ks ts i w v → Below w.heap.size w w' → W4 a0 len0 m0 cap0 y1 g1 k1 n1 s1 ks ts i w' v := by
  intro i w w' v h hb
  unfold W4 at h ⊢
  split at h <;> first | exact h | trivial | exact RB.below h hb | exact Own.below h hb

set_option maxHeartbeats 4000000 in
set_option maxRecDepth 100000 in
theorem walk (w : World) (a0 : Option Addr) (len0 cap0 : Nat) (z0 : List Int) (w0 : IsRow .u8 w a0 len0 cap0 z0) (y1 : ByteArray) (g1 : Bool) (k1 n1 : Int) (s1 : ByteArray) (w1 : RecOk (y1, g1, k1, n1, s1)) (a2 : Int) (w2 : (Lit.int .i64 a2).wf = true) (a3 : Int) (w3 : (Lit.int .u8 a3).wf = true) :
    Calls Try.prog 4 #[.slice a0 len0 cap0, recV y1 g1 k1 n1 s1, .int .i64 a2, .int .u8 a3] w fun e w' => e = .returned (.bool true) ∧ Below w.heap.size w w' := by
  obtain ⟨l, hl⟩ := rb_of_row w0
  obtain ⟨wy, wk, wn, ws⟩ := w1
  simp only [] at wy wk wn ws
  obtain ⟨z, rfl⟩ : ∃ z : UInt8, a3 = (z.toNat : Int) := by
    obtain ⟨h1, h2⟩ := bounds_u8 w3
    exact ⟨UInt8.ofNat a3.toNat, by rw [ofNat_toNat _ (by omega)]; omega⟩
  obtain ⟨q1, q2⟩ := bounds_i64 w2
  have c0 := fun W => rcut_c y1 g1 k1 n1 s1 W wy ws
  have hK : ((bl y1).take 20).length ≤ 20 := List.length_take_le _ _
  have hT : ((bl s1).take 30).length ≤ 30 := List.length_take_le _ _
  generalize (bl y1).take 20 = K at *
  generalize (bl s1).take 30 = T at *
  obtain ⟨b1, b2⟩ := bounds_i64 wn
  have b2 : n1 ≤ 9223372036854775807 := by omega
  obtain ⟨b3, b4⟩ := bounds_i64 wk
  have b4 : k1 ≤ 9223372036854775807 := by omega
  have cm := fun W => rmayrec_c (str K) g1 k1 n1 (str T) W (by rw [str_size]; unfold maxLen; omega) (by rw [str_size]; unfold maxLen; omega)
  have cb := fun W => rbytes_c K g1 k1 n1 T W (by omega) b3 b4 b1 b2 (by omega)
  have hlen := hl.len.1
  have CS := Go.Lib.hid fun W (h : RB W (.slice a0 len0 cap0) l) => (short_v a0 len0 cap0 l 60 W h (by omega)).mono (R' := fun e w' => e = .returned (.slice a0 (l.take 60).length cap0) ∧ Below W.heap.size W w') (by rintro e w' ⟨rfl, rfl⟩; exact ⟨by rw [List.length_take, hlen], Below.refl _ _⟩)
  have HL0 := Go.Lib.hid hl
  have hlt := rb_take hl 60
  rw [show min 60 len0 = (l.take 60).length from by rw [List.length_take, hlen]] at hlt
  have Hlt := Go.Lib.hid hlt
  clear wy wk wn ws hK hT w0 w2 w3 hl hlt hlen
  generalize (l.take 60).length = m at *
  generalize l.take 60 = L at *
  unfold recV at c0 cm cb ⊢
  have hA := heap_alloc_new w (.cells #[.string y1, .bool g1, .int .i64 k1, .int .i64 n1, .string s1] 25)
  have hbb := below_one w (.cells #[.string y1, .bool g1, .int .i64 k1, .int .i64 n1, .string s1] 25)
  have C0 := Go.Lib.hid c0; clear c0
  have CM := Go.Lib.hid cm; clear cm
  have CB := Go.Lib.hid cb; clear cb
  have B1 := Go.Lib.hid b1; clear b1
  have B2 := Go.Lib.hid b2; clear b2
  clear b3 b4
  have Q1 := Go.Lib.hid q1; clear q1
  have Q2 := Go.Lib.hid q2; clear q2
  generalize hks : str K = ks at *
  generalize hts : str T = ts at *
  have Hks := Go.Lib.hid hks; clear hks
  have Hts := Go.Lib.hid hts; clear hts
  go_enter Try.func4, Try.ntmps4
  go_wp2_with fail
  refine (begun_c _).mono ?_
  rintro e w1 ⟨rfl, hc⟩
  have hA := row_kept hA hc
  have hbb := hbb.trans (hc.mono hbb.size)
  clear hc
  obtain ⟨x0, x1, x2, x3, x4⟩ := row5 hA
  have HA := Go.Lib.hid hA; clear hA
  have HL1 := Go.Lib.hid (HL0.out.below hbb)
  clear HL0
  go_upto_region 4 with (fail)
  refine wp_region_head 4 (by decide) (by kernel_rfl) (W4 a0 len0 m cap0 y1 g1 k1 n1 s1 ks ts) (W4_below a0 len0 m cap0 y1 g1 k1 n1 s1 ks ts) (by decide +kernel) (by rfl) [14, 15, 16, 17] (by rfl) ?_ ?_
  · intro i o hin ho a w6 hb6 hlen hg
    have x0 := cell_kept x0 hb6
    have x1 := cell_kept x1 hb6
    have x2 := cell_kept x2 hb6
    have x3 := cell_kept x3 hb6
    have x4 := cell_kept x4 hb6
    match i, hin, ho with
    | 0, hin, ho =>
      obtain rfl := Option.some.inj ho
      have h0 := given_old hg 0 (by decide +kernel)
      clear hg
      exact st_yield ho (wanted_none rfl) (.slice a0 len0 cap0) w6 (by simp [execOp, Act.eval, h0, go_sem]) ⟨_, rfl, Below.refl _ _, by rintro t' ⟨⟩; rfl⟩
    | 1, hin, ho =>
      obtain rfl := Option.some.inj ho
      obtain ⟨_, h14, rfl⟩ := given_fed hg 14 (by decide +kernel)
      clear hg
      exact st_enter (w1 := w6) ho (wanted_none rfl) 10 #[.slice a0 len0 cap0, .int .i64 60] (by simp [execOp, Act.eval, h14, resolve, go_sem]) ((CS.out _ (HL1.out.below hb6)).mono (by rintro e w7 ⟨rfl, hb7⟩; exact ⟨_, rfl, _, rfl, hb7, by rintro t' ⟨⟩; rfl⟩))
    | 2, hin, ho =>
      obtain rfl := Option.some.inj ho
      have h5 := given_old hg 5 (by decide +kernel)
      clear hg
      exact st_yield ho (wanted_none rfl) (.agg #[.string y1, .bool g1, .int .i64 k1, .int .i64 n1, .string s1]) w6 (by simp [execOp, Act.eval, h5, go_sem, x0, x1, x2, x3, x4]) ⟨_, rfl, Below.refl _ _, by rintro t' ⟨⟩; rfl⟩
    | 3, hin, ho =>
      obtain rfl := Option.some.inj ho
      obtain ⟨_, h16, rfl⟩ := given_fed hg 16 (by decide +kernel)
      clear hg
      exact st_enter (w1 := w6) ho (wanted_none rfl) 9 #[.agg #[.string y1, .bool g1, .int .i64 k1, .int .i64 n1, .string s1]] (by simp [execOp, Act.eval, h16, resolve, go_sem]) ((C0.out _).mono (by rintro e w7 ⟨rfl, hb7⟩; exact ⟨_, rfl, _, rfl, hb7, by rintro t' ⟨⟩; rfl⟩))
    | n + 4, hin, ho => omega
  · intro f w8 hb8 hv
    have h15 := hv 15 (by simp)
    have h17 := hv 17 (by simp)
    clear hv
    simp only [W4] at h15 h17
    unfold putAll
    simp only [List.foldl, List.drop]
    simp only [h15, h17]
    go_simp
    have hA := row_kept HA.out hb8
    have hbb := hbb.trans (hb8.mono hbb.size)
    clear hb8 x0 x1 x2 x3 x4 HA h15 h17 C0 CS HL1
    have hS := setRow_heap w8 w.heap.size _ #[.string ks, .bool g1, .int .i64 k1, .int .i64 n1, .string ts] 25 (0, 0) hA
    have hbb := setRow_below #[.string ks, .bool g1, .int .i64 k1, .int .i64 n1, .string ts] hbb (Nat.le_refl _)
    have HA := Go.Lib.hid hA; clear hA
    have HS := Go.Lib.hid hS; clear hS
    go_wp2_with (first
      | (with_reducible show wpList _ _ _ (⟨none, Op.store 25 (.tmp 5) (.tmp 17), _, _, _, _⟩ :: _) _ _; go_loud (refine wpList_store_row rfl 25 (.tmp 5) (.tmp 17) rfl w.heap.size #[.string ks, .bool g1, .int .i64 k1, .int .i64 n1, .string ts] rfl rfl 25 _ HA.out (by kernel_rfl) rfl (rec_cells_one ..) ?_))
      | fail)
    clear HA
    generalize w8.setRow w.heap.size #[.string ks, .bool g1, .int .i64 k1, .int .i64 n1, .string ts] = u at *
    refine (tells_c _ _ _ (Hlt.out.below hbb)).mono ?_
    rintro e u2 ⟨rfl, hc⟩
    have hA := row_kept HS.out hc
    have hbb := hbb.trans (hc.mono hbb.size)
    clear hc HS Hlt
    obtain ⟨x0, x1, x2, x3, x4⟩ := row5 hA
    have HA := Go.Lib.hid hA; clear hA
    go_wp2_with fail
    refine (CM.out _).mono ?_
    rintro e u3 ⟨rfl, hc⟩
    have hA := row_kept HA.out hc
    have hbb := hbb.trans (hc.mono hbb.size)
    clear hc HA CM x0 x1 x2 x3 x4
    cases hmay : mayRec ks g1 k1 n1 ts with
    | false =>
      clear hA
      go_wp2_with fail
      go_ret
      exact ⟨rfl, hbb⟩
    | true =>
      by_cases hneg : a2 < 0
      · clear hA
        go_wp2_with fail
        go_ret
        exact ⟨rfl, hbb⟩
      · obtain ⟨j, rfl⟩ : ∃ j : Nat, a2 = (j : Int) := ⟨a2.toNat, by omega⟩
        have hlen := recB_len (key := K) (s := T) (by rw [Hks.out, Hts.out]; exact hmay) B1.out B2.out
        generalize recB K g1 k1 n1 T = A at *
        obtain ⟨x0, x1, x2, x3, x4⟩ := row5 hA
        go_wp2_with fail
        have hbz := hbb.size
        refine (CB.out _).mono ?_
        rintro e u4 ⟨v, rfl, hown, hc⟩
        have hbb := hbb.trans (hc.mono hbb.size)
        clear hc hA x0 x1 x2 x3 x4 CB
        obtain ⟨g, cap, rfl, hgB, hgs, hgc, hgm, -⟩ := hown.form (by omega)
        obtain ⟨r, hr⟩ : ∃ r, r = j % A.length := ⟨_, rfl⟩
        have hrl : r < A.length := by rw [hr]; exact Nat.mod_lt _ (by omega)
        have hrem : (j : Int).tmod (A.length : Int) = (r : Int) := by rw [hr, Int.tmod_eq_emod_of_nonneg (by omega)]; omega
        have hxor := u8_xor_c A[r] z
        have hcl := hown.cell r hrl
        have hfr := hown.frozenAt r
        have hst := hown.store r (A[r] ^^^ z) ((A[r].toNat ^^^ z.toNat : Nat) : Int) (by rw [UInt8.toNat_xor])
        generalize hy : A[r] = y at *
        have Hown := Go.Lib.hid hown; clear hown
        have Hst := Go.Lib.hid hst; clear hst
        have Hr := Go.Lib.hid hr; clear hr
        have Hl := Go.Lib.hid hlen; clear hlen
        have hne : A.length ≠ 0 := by omega
        go_upto_region 10 with (fail)
        go_wp2_with fail
        have hbb := Below.setCell hbb (p := ⟨g, r, none⟩) (Nat.le_trans hbz hgB) (.int .u8 ((y.toNat ^^^ z.toNat : Nat) : Int))
        have hst := Hst.out
        generalize u4.setCell ⟨g, r, none⟩ (.int .u8 ((y.toNat ^^^ z.toNat : Nat) : Int)) = u5 at *
        clear hcl hfr hxor
        refine (tells_c _ _ _ hst.rb).mono ?_
        rintro e u6 ⟨rfl, hc⟩
        have hrb := hst.rb.below hc
        have hbb := hbb.trans (hc.mono hbb.size)
        clear hc
        have hrt := rb_take hrb r
        rw [show min r A.length = r from by omega] at hrt
        go_wp2_with fail
        refine (tells_c _ _ _ hrt).mono ?_
        rintro e u7 ⟨rfl, hc⟩
        have hbb := hbb.trans (hc.mono hbb.size)
        go_wp2_with fail
        go_ret
        exact ⟨rfl, hbb⟩

/-! ### THE ROW -/
set_option maxRecDepth 100000 in
theorem lifted (os : Os) (started : os.Started) (H : Type) (enc : TypeId × Value → H) :
    ReturnsInHanded {} Try.checked os 4 .any (Rows.recordAnySpec.pre6 enc Try.prog Try.f4 Rows.recordAnyRow.domain false) (Rows.recordAnySpec.post enc Try.prog Try.f4 false true false false) := by
  refine returnsInHanded_of_change (C := Try.checked) own started (by kernel_rfl) Try.func4
    (ChangeSpec.witness6 (enc := enc) (C := Try.checked) false ⟨#[], #[.slice none 0 0, .agg #[.string ByteArray.empty, .bool false, .int .i64 0, .int .i64 0, .string ByteArray.empty], .int .i64 0, .int .u8 0], []⟩ 8 (by kernel_rfl) (by kernel_rfl) (by kernel_rfl) (by kernel_rfl)) ?_
  intro W base args ds gs before hval0 hW hcnd _
  have hval : ∀ (j : Nat) t v, Try.f4.params[j]? = some t → args[j]? = some v → Value.okWide Try.prog W .any base t v := hval0
  have hW' := hW
  obtain ⟨p, q, hA0, hV, rfl, hfz, hnd⟩ := hW
  have hA : DataW.TrodAll enc Try.prog W 0 (fun _ => true) true Try.f4.params.toList args.toList ds p := hA0
  rw [Try.params4] at hA hval
  obtain ⟨v0, vs0, d0, ds0, p0, q0, hargs, rfl, rfl, h0, r0⟩ := trodAll_cons hA
  obtain ⟨v1, vs1, d1, ds1, p1, q1, rfl, rfl, rfl, h1, r1⟩ := trodAll_cons r0
  obtain ⟨v2, vs2, d2, ds2, p2, q2, rfl, rfl, rfl, h2, r2⟩ := trodAll_cons r1
  obtain ⟨v3, vs3, d3, ds3, p3, q3, rfl, rfl, rfl, h3, r3⟩ := trodAll_cons r2
  obtain ⟨rfl, rfl, rfl⟩ := trodAll_nil r3
  obtain rfl : args = #[v0, v1, v2, v3] := by cases args; simp_all
  obtain ⟨rfl, rfl⟩ := trodVars_none hV
  have kk0 := h0
  have lt0 : ∀ x ∈ p0, x.block < W.heap.size := by obtain ⟨m, hm⟩ := kk0; exact DataW.trod_lt m _ _ _ hm
  have kk1 := h1
  have lt1 : ∀ x ∈ p1, x.block < W.heap.size := by obtain ⟨m, hm⟩ := kk1; exact DataW.trod_lt m _ _ _ hm
  have kk2 := h2
  have lt2 : ∀ x ∈ p2, x.block < W.heap.size := by obtain ⟨m, hm⟩ := kk2; exact DataW.trod_lt m _ _ _ hm
  have kk3 := h3
  have lt3 : ∀ x ∈ p3, x.block < W.heap.size := by obtain ⟨m, hm⟩ := kk3; exact DataW.trod_lt m _ _ _ hm
  obtain ⟨a0, len0, cap0, rfl⟩ := okWide_slice Try.underlying26 (hval 0 26 v0 rfl rfl)
  obtain ⟨z0, w0⟩ : ∃ zs, IsRow .u8 W a0 len0 cap0 zs := by
    obtain ⟨fuel, hf⟩ := h0
    rcases open_ints Try.underlying26 Try.underlying5 (by kernel_rfl) hf with ⟨hcs, _⟩ | ⟨x, l, c, zs, hcs, _, hl, hm, hz, _, hcell, hwz⟩
    · simp [Value.cells] at hcs
      obtain ⟨rfl, rfl, rfl⟩ := hcs
      exact ⟨[], .inl ⟨rfl, rfl, rfl, rfl⟩⟩
    · simp [Value.cells] at hcs
      obtain ⟨rfl, rfl, rfl⟩ := hcs
      exact ⟨zs, .inr ⟨_, rfl, hl, hm, by simpa using hz, hcell, hwz⟩⟩
  obtain ⟨y1, g1, k1, n1, s1, rfl, w1⟩ := open_rec (hval 1 25 v1 rfl rfl) h1
  obtain ⟨a2, rfl, rfl, rfl, w2⟩ := open_int Try.underlying3 (hval 2 3 v2 rfl rfl) h2
  obtain ⟨a3, rfl, rfl, rfl, w3⟩ := open_int Try.underlying5 (hval 3 5 v3 rfl rfl) h3
  clear hA0 hval0
  refine (walk W a0 len0 cap0 z0 w0 y1 g1 k1 n1 s1 w1 a2 w2 a3 w3).mono fun e W' ⟨he, bel⟩ => ?_
  subst he
  exact ⟨_, rfl, _, _, _, [], _, [], hW', trodAll_mk1 (shut_bool Try.underlying4 _), (trodAll_cons_mk (Below.trod laidOut (by kernel_rfl) (of_decide_eq_true (by kernel_rfl)) kk0 bel lt0) (trodAll_cons_mk (Below.trod laidOut (by kernel_rfl) (of_decide_eq_true (by kernel_rfl)) kk1 bel lt1) (trodAll_cons_mk (Below.trod laidOut (by kernel_rfl) (of_decide_eq_true (by kernel_rfl)) kk2 bel lt2) (trodAll_cons_mk (Below.trod laidOut (by kernel_rfl) (of_decide_eq_true (by kernel_rfl)) kk3 bel lt3) trodAll_mk0)))), rfl, bel.frame _, fun h => by cases h⟩

theorem over : Rows.recordAnyRow.holds Try.pinned (OpenSpec.ofChange Rows.recordAnySpec) :=
  OpenClaim.holds_of_wide 4 Try.f4 rfl rfl rfl rfl rfl rfl rfl ⟨rfl, rfl, rfl, rfl, rfl⟩ rfl rfl rfl rfl rfl (by kernel_rfl) Try.func4 (by kernel_rfl)
    (of_decide_eq_true (by kernel_rfl)) (by unfold Func.isWrapper; first | (rw [if_pos (by decide +kernel)]; kernel_rfl) | (rw [if_neg (by decide +kernel)]; exact ⟨rfl, rfl⟩))
    (fun os started H enc _ => lifted os started H enc)

theorem proved : Rows.RecordAnySaid := over
#print axioms proved
end Go.Proofs.Ytafpbhkddodjoaa.recordAny
