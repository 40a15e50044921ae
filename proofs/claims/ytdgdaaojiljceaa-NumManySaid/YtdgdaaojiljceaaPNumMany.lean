/- NumMany: numbers one behind the other are told one by one: for every input the law returns true. -/
import Derived.Test.YtdgdaaojiljceaaRows
import Derived.WalkKit
import Derived.ProofKit
import Derived.OpenShut
import Derived.ShutString
import Derived.ChangeOld
import Derived.Below
import Derived.Test.YtdgdaaojiljceaaNumB
import Derived.Deep.DeepCutAuto
namespace Go.Proofs.Ytdgdaaojiljceaa.numMany
open Go.ChangeShapes Go.WideShapes Go.ChangeAt Go.RowKit
open Go.ChangeMaps (open_string shut_string)
set_option linter.unusedVariables false

theorem own : ownKnob Try.prog.godebug = none := by kernel_rfl
theorem laidOut : laidOutB Try.prog = true := by kernel_rfl

/-- WHAT THE WALK IS TOLD OF A SLICE OF INTEGERS THAT CAME IN: it is nil; or it leads to a row of 'cap' cells, the numbers 'zs' (the first 'len' are its elements, the rest its spare room), each fitting its kind. -/
def IsRow (k : IntKind) (w : World) (a : Option Addr) (len cap : Nat) (zs : List Int) : Prop :=
  (a = none ∧ len = 0 ∧ cap = 0 ∧ zs = []) ∨
  ∃ x, a = some x ∧ len ≤ cap ∧ cap ≤ maxLen ∧ zs.length = cap ∧ (∀ i, i < zs.length → w.cell? (x.add i) = some (.int k (zs.getD i 0))) ∧ ∀ n ∈ zs, (Lit.int k n).wf = true

open Go.Lib (uvarint zigzag)
def encs (l : List Int) : List UInt8 := l.flatMap fun n => uvarint (zigzag n)
theorem encs_snoc (l : List Int) (n : Int) : encs (l ++ [n]) = encs l ++ uvarint (zigzag n) := by simp [encs]
theorem encs_cons (l : List Int) (n : Int) : encs (n :: l) = uvarint (zigzag n) ++ encs l := by simp [encs]
theorem encs_len (l : List Int) (h : ∀ n ∈ l, -9223372036854775808 ≤ n ∧ n ≤ 9223372036854775807) : (encs l).length ≤ 10 * l.length := by
  induction l with
  | nil => simp [encs]
  | cons n l ih =>
    rw [encs_cons, List.length_append, List.length_cons]
    have h1 := h n (by simp)
    have := Go.Lib.uvarint_length64 (Go.Lib.zigzag_lt h1.1 h1.2)
    have := ih fun m hm => h m (by simp [hm])
    omega

/-- What the law reads of its numbers. -/
structure Nums (w : World) (s : Value) (zs : List Int) : Prop where
  val : ∃ a cap, s = .slice a zs.length cap ∧ zs.length ≤ cap ∧ cap ≤ maxLen ∧ (zs ≠ [] → ∃ b o, a = some ⟨b, o, none⟩ ∧ ∀ i (h : i < zs.length), w.cell? ⟨b, o + i, none⟩ = some (.int .i64 zs[i]))
  few : zs.length ≤ 40
  fit : ∀ n ∈ zs, -9223372036854775808 ≤ n ∧ n ≤ 9223372036854775807

theorem Nums.below {w w' : World} {s : Value} {zs : List Int} (h : Nums w s zs) (hb : Below w.heap.size w w') : Nums w' s zs := by
  obtain ⟨⟨a, cap, h1, h2, h3, h4⟩, h5, h6⟩ := h
  refine ⟨⟨a, cap, h1, h2, h3, fun hne => ?_⟩, h5, h6⟩
  obtain ⟨b, o, rfl, hc⟩ := h4 hne
  refine ⟨b, o, rfl, fun i hi => ?_⟩
  have := hc i hi
  exact (hb.cell (World.block_lt_of_cell? w _ this)).trans this

theorem nums_of {w : World} {a : Option Addr} {len cap : Nat} {zs : List Int} (h : IsRow .i64 w a len cap zs) (m : Nat) (hm : m ≤ len) (hm40 : m ≤ 40) : Nums w (.slice a m cap) (zs.take m) := by
  rcases h with ⟨rfl, rfl, rfl, rfl⟩ | ⟨x, rfl, hl, hmx, hz, hc, hw⟩
  · obtain rfl : m = 0 := by omega
    exact ⟨⟨none, 0, rfl, Nat.le_refl _, by simp [maxLen], fun h => absurd rfl h⟩, by simp, by simp⟩
  · have hlen : (zs.take m).length = m := by simp; omega
    refine ⟨⟨some x, cap, by rw [hlen], by rw [hlen]; omega, hmx, fun hne => ?_⟩, by rw [hlen]; exact hm40, fun n hn => ?_⟩
    · have hpos : 0 < m := by rw [← hlen]; exact List.length_pos_iff.2 hne
      obtain ⟨b, o, spot⟩ := x
      have hspot : spot = none := by simpa [Addr.add] using World.cell?_spot (hc 0 (by omega))
      subst hspot
      refine ⟨b, o, rfl, fun i hi => ?_⟩
      rw [hlen] at hi
      have h1 := hc i (by omega)
      have hadd : (⟨b, o, none⟩ : Addr).add i = ⟨b, o + i, none⟩ := by unfold Addr.add; split <;> simp_all
      rw [hadd] at h1
      rw [h1]
      have hi' : i < zs.length := by omega
      simp [List.getD_eq_getElem?_getD, List.getElem?_eq_getElem hi']
    · have := bounds_i64 (hw n (List.mem_of_mem_take hn))
      omega

set_option maxRecDepth 100000 in
theorem walk (a0 : Option Addr) (len0 cap0 : Nat) (z0 : List Int) (w : World) (w0 : IsRow .i64 w a0 len0 cap0 z0) :
    Calls Try.prog 6 #[.slice a0 len0 cap0] w fun e w' => e = .returned (.bool true) ∧ Below w.heap.size w w' := by
  have hlc : len0 ≤ cap0 ∧ cap0 ≤ 9223372036854775807 := by
    rcases w0 with ⟨rfl, rfl, rfl, rfl⟩ | ⟨x, rfl, hl, hmx, hz, hc, hw⟩
    · omega
    · unfold maxLen at hmx; omega
  obtain ⟨hlc, hcm⟩ := hlc
  go_enter Try.func6, Try.ntmps6
  go_upto_if 15 with (go_at_call 9; refine (begun_c _).mono ?_; rintro e w1 ⟨rfl, hb1⟩)
  go_cut [0] (fun s wx => ∃ zs, Nums wx s zs ∧ Below w.heap.size w wx)
  case first =>
    by_cases h40 : 40 < len0
    · have hn := (nums_of w0 40 (by omega) (by omega)).below hb1
      have Hn := Go.Lib.hid hn; clear hn
      go_wp2
      go_meet
      exact ⟨_, Hn.out, hb1⟩
    · have hn := (nums_of w0 len0 (by omega) (by omega)).below hb1
      have Hn := Go.Lib.hid hn; clear hn
      go_wp2
      go_meet
      exact ⟨_, Hn.out, hb1⟩
  case rest =>
    obtain ⟨zs, hn, hb⟩ := hcut
    obtain ⟨⟨a, cap, rfl, hlc, hcm', hcell⟩, hfew, hfit⟩ := hn
    have Hfit := Go.Lib.hid hfit; clear hfit
    have Hcell := Go.Lib.hid hcell; clear hcell
    go_wp2_with fail
    go_loopw [4, 5] (fun v i wr => ∃ k : Nat, k ≤ zs.length ∧ i = .int .i64 (k : Int) ∧ RB wr v (encs (zs.take k)) ∧ Below w.heap.size w wr ∧ Below wc.heap.size wc wr) (fun _ i _ => zs.length - (intOf i).toNat)
    case atStart => exact ⟨0, by omega, rfl, RB.nil _, hb, Below.refl _ _⟩
    case round =>
      obtain ⟨k, hk, rfl, hrb, hbel, hbc⟩ := hrel
      by_cases hlt : k < zs.length
      · obtain ⟨b, o, rfl, hc⟩ := Hcell.out (by intro e; subst e; simp at hlt)
        have hck := (hbc.cell (p := ⟨b, o + k, none⟩) (World.block_lt_of_cell? wc _ (hc k hlt))).trans (hc k hlt)
        clear hc
        have hsn : encs (zs.take (k + 1)) = encs (zs.take k) ++ uvarint (zigzag zs[k]) := by rw [List.take_succ_eq_append_getElem hlt, encs_snoc]
        have hfk := Hfit.out zs[k] (List.getElem_mem hlt)
        have hel := encs_len (zs.take k) (fun n hn => Hfit.out n (List.mem_of_mem_take hn))
        rw [List.length_take] at hel
        generalize zs[k] = n at hck hsn hfk
        have Hsn := Go.Lib.hid hsn; clear hsn
        obtain ⟨f0, f1⟩ := hfk
        go_wp2_with fail
        refine (put_c u4 _ n _ hrb f0 f1 (by omega)).mono ?_
        rintro e w2 ⟨v2, rfl, hown2, hb2⟩
        have hrb2 := hown2.rb
        rw [← Hsn.out] at hrb2
        have hbel2 := hbel.trans (hb2.mono hbel.size)
        have hbc2 := hbc.trans (hb2.mono hbc.size)
        clear hbel hbc hb2 hown2
        go_wp2
        go_roundw
        case rel => exact ⟨k + 1, by omega, by go_num, hrb2, hbel2, hbc2⟩
        case measure => simp [intOf]; omega
      · have hkl : zs.take k = zs := List.take_of_length_le (by omega)
        rw [hkl] at hrb
        clear hkl
        go_wp2_with fail
        go_loop [4, 6] (fun v i => ∃ k : Nat, k ≤ zs.length ∧ i = .int .i64 (k : Int) ∧ RB wr v (encs (zs.drop k))) (fun _ i => zs.length - (intOf i).toNat)
        case atStart => exact ⟨0, by omega, rfl, hrb⟩
        case round =>
          obtain ⟨j, hj, rfl, hrb⟩ := hrel
          by_cases hlt : j < zs.length
          · obtain ⟨b, o, rfl, hc⟩ := Hcell.out (by intro e; subst e; simp at hlt)
            have hck := (hbc.cell (p := ⟨b, o + j, none⟩) (World.block_lt_of_cell? wc _ (hc j hlt))).trans (hc j hlt)
            clear hc
            have hsn : encs (zs.drop j) = uvarint (zigzag zs[j]) ++ encs (zs.drop (j + 1)) := by rw [List.drop_eq_getElem_cons hlt, encs_cons]
            have hfk := Hfit.out zs[j] (List.getElem_mem hlt)
            generalize zs[j] = n at hck hsn hfk
            have hg := getB_put n hfk.1 hfk.2 (encs (zs.drop (j + 1)))
            rw [hsn] at hrb
            generalize uvarint (zigzag n) = p at hrb hg
            have Hg := Go.Lib.hid hg; clear hg hsn hfk
            go_wp2_with (first
              | (go_at_call 16; refine (get_c u4 _ _ hrb).mono ?_; rintro e w3 ⟨rfl, rfl⟩; rw [Hg.out]; unfold gv)
              | (with_reducible show wpList _ _ _ (⟨some 54, _, _, _, _, _⟩ :: _) _ _; go_loud (refine wpList_slice_l rfl (.tmp 52) (.tmp 53) 22 rfl 5 Try.underlying22 info8 u4 (p ++ encs (zs.drop (j + 1))) .i64 _ p.length rfl rfl rfl hrb (by simp) ?_); intro v3 hv3))
            rw [List.drop_left] at hv3
            go_round
            case rel => exact ⟨j + 1, by omega, by go_num, hv3⟩
            case measure => simp [intOf]; omega
          · have hnil : encs (zs.drop j) = [] := by rw [List.drop_of_length_le (by omega)]; rfl
            rw [hnil] at hrb
            clear hnil
            obtain ⟨a3, cap3, rfl, -, -, -, -⟩ := hrb
            go_wp2
            go_ret
            exact ⟨rfl, hbel⟩

/-! ### THE ROW's STEP: WRITTEN OUT: LEAVE IT -/
set_option maxRecDepth 100000 in
theorem lifted (os : Os) (started : os.Started) (H : Type) (enc : TypeId × Value → H) :
    ReturnsInHanded {} Try.checked os 6 .any (Rows.numManySpec.pre6 enc Try.prog Try.f6 Rows.numManyRow.domain false) (Rows.numManySpec.post enc Try.prog Try.f6 false true false false) := by
  refine returnsInHanded_of_change (C := Try.checked) own started (by kernel_rfl) Try.func6
    (ChangeSpec.witness6 (enc := enc) (C := Try.checked) false ⟨#[], #[.slice none 0 0], []⟩ 8 (by kernel_rfl) (by kernel_rfl) (by kernel_rfl) (by kernel_rfl)) ?_
  intro W base args ds gs before hval0 hW hcnd _
  have hval : ∀ (j : Nat) t v, Try.f6.params[j]? = some t → args[j]? = some v → Value.okWide Try.prog W .any base t v := hval0
  have hW' := hW
  obtain ⟨p, q, hA0, hV, rfl, hfz, hnd⟩ := hW
  have hA : DataW.TrodAll enc Try.prog W 0 (fun _ => true) true Try.f6.params.toList args.toList ds p := hA0
  rw [Try.params6] at hA hval
  obtain ⟨v0, vs0, d0, ds0, p0, q0, hargs, rfl, rfl, h0, r0⟩ := trodAll_cons hA
  obtain ⟨rfl, rfl, rfl⟩ := trodAll_nil r0
  obtain rfl : args = #[v0] := by cases args; simp_all
  obtain ⟨rfl, rfl⟩ := trodVars_none hV
  obtain ⟨a0, len0, cap0, rfl⟩ := okWide_slice Try.underlying38 (hval 0 38 v0 rfl rfl)
  have k0 := h0
  have lt0 : ∀ x ∈ p0, x.block < W.heap.size := by obtain ⟨m, hm⟩ := k0; exact DataW.trod_lt m _ _ _ hm
  obtain ⟨z0, w0⟩ : ∃ zs, IsRow .i64 W a0 len0 cap0 zs := by
    obtain ⟨fuel, hf⟩ := h0
    rcases open_ints Try.underlying38 Try.underlying2 (by kernel_rfl) hf with ⟨hcs, _⟩ | ⟨x, l, c, zs, hcs, _, hl, hm, hz, _, hcell, hwz⟩
    · simp [Value.cells] at hcs
      obtain ⟨rfl, rfl, rfl⟩ := hcs
      exact ⟨[], .inl ⟨rfl, rfl, rfl, rfl⟩⟩
    · simp [Value.cells] at hcs
      obtain ⟨rfl, rfl, rfl⟩ := hcs
      exact ⟨zs, .inr ⟨_, rfl, hl, hm, by simpa using hz, hcell, hwz⟩⟩
  clear hA0 hval0
  refine (walk a0 len0 cap0 z0 W w0).mono fun e W' ⟨he, bel⟩ => ?_
  subst he
  exact ⟨_, rfl, _, _, _, [], _, [], hW', trodAll_mk1 (shut_bool Try.underlying4 _), (trodAll_cons_mk (Below.trod laidOut (by kernel_rfl) (of_decide_eq_true (by kernel_rfl)) k0 bel lt0) trodAll_mk0), rfl, bel.frame _, fun h => by cases h⟩

theorem over : Rows.numManyRow.holds Try.pinned (OpenSpec.ofChange Rows.numManySpec) :=
  OpenClaim.holds_of_wide 6 Try.f6 rfl rfl rfl rfl rfl rfl rfl ⟨rfl, rfl, rfl, rfl, rfl⟩ rfl rfl rfl rfl rfl (by kernel_rfl) Try.func6 (by kernel_rfl)
    (of_decide_eq_true (by kernel_rfl)) (by unfold Func.isWrapper; first | (rw [if_pos (by decide +kernel)]; kernel_rfl) | (rw [if_neg (by decide +kernel)]; exact ⟨rfl, rfl⟩))
    (fun os started H enc _ => lifted os started H enc)

/-- ████ THE STATEMENT ████ -/
theorem proved : Rows.NumManySaid := over
#print axioms proved
end Go.Proofs.Ytdgdaaojiljceaa.numMany
