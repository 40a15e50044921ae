/- HashSame: one text has one hash, whenever it is asked: for every text and every rune the law returns true. -/
import Derived.Test.YtlmfdpdcffnocaaRows
import Derived.WalkKit
import Derived.ProofKit
import Derived.OpenShut
import Derived.ShutString
import Derived.Test.YtlmfdpdcffnocaaBegun9
import Derived.Test.YtlmfdpdcffnocaaOwnC
import Derived.Laws.Runes
import Derived.Deep.DeepCutAuto
namespace Go.Proofs.Ytlmfdpdcffnocaa.hashSame
open Go.ChangeShapes Go.WideShapes Go.ChangeAt Go.RowKit
open Go.ChangeMaps (open_string shut_string)
set_option linter.unusedVariables false      -- a walk need not use every 'w<i>' (that an integer argument fits its kind)

theorem own : ownKnob Try.prog.godebug = none := by kernel_rfl

theorem encode_le (r : Int) : (Utf8.encode r).size ≤ 4 := by
  unfold Utf8.encode
  generalize (if Utf8.valid r = true then r.toNat else Utf8.runeError) = c
  simp only []
  split
  · show 1 ≤ 4; omega
  split
  · show 2 ≤ 4; omega
  split
  · show 3 ≤ 4; omega
  · show 4 ≤ 4; omega

set_option maxHeartbeats 2000000 in
set_option maxRecDepth 100000 in
theorem walk (a0 : ByteArray) (a1 : Int) (w0 : a0.size ≤ maxLen) (w1 : (Lit.int .i32 a1).wf = true) (w : World) :
    Calls Try.prog 8 #[.string a0, .int .i32 a1] w fun e w' => e = .returned (.bool true) ∧ Below w.heap.size w w' := by
  have hs0 := w0
  unfold maxLen at hs0
  clear w0 w1
  go_enter Try.func8, Try.ntmps8
  go_wp2_with fail
  refine (begun_c _).mono ?_
  rintro e w1 ⟨rfl, hbb⟩
  go_upto_if 12 with fail
  go_cut [0] (fun s wx => wx = w1 ∧ ∃ p : ByteArray, p.size ≤ 30 ∧ s = .string p)
  case first =>
    by_cases h30 : 30 < a0.size
    · have ht : (str ((bl a0).take 30)).size ≤ 30 := by rw [str_size, List.length_take]; omega
      have H1 := Go.Lib.hid (take_bl a0 30)
      have ht := Go.Lib.hid ht
      go_wp2_with fail
      go_meet
      exact ⟨rfl, _, ht.out, by rw [H1.out]⟩
    · go_wp2_with fail
      go_meet
      exact ⟨rfl, _, by omega, rfl⟩
  case rest =>
    obtain ⟨rfl, p, hp, rfl⟩ := hcut
    obtain ⟨h, he⟩ : ∃ h, hashS p = h := ⟨_, rfl⟩
    have C0 := Go.Lib.hid fun W => hof_k p h he W (by omega)
    have hE := encode_le a1
    generalize hEE : Utf8.encode a1 = E at *
    have hpe : (p ++ E).size ≤ 1000000 := by rw [ByteArray.size_append]; omega
    have C1 := Go.Lib.hid fun W => hof_c (p ++ E) W hpe
    have C2 := Go.Lib.hid fun W => hof_k p h he W (by omega)
    clear he hs0 hpe
    go_wp2_with fail
    refine (C0.out _).mono ?_
    rintro e w2 ⟨rfl, hc⟩
    have hbb := hbb.trans (hc.mono hbb.size)
    clear hc C0
    go_wp2_with fail
    refine (C1.out _).mono ?_
    rintro e w3 ⟨rfl, hc⟩
    have hbb := hbb.trans (hc.mono hbb.size)
    clear hc C1
    go_wp2_with fail
    refine (C2.out _).mono ?_
    rintro e w4 ⟨rfl, hc⟩
    have hbb := hbb.trans (hc.mono hbb.size)
    clear hc hEE hE
    have hcv := Go.Lib.run_convert_string_bytes (P := Try.prog) w4 9 30 5 p Try.underlying9 Try.underlying30 Try.underlying5
    have hown := bytes_own w4 5 p
    have hb5 := bytes_below w4 5 p
    have hc1 := grownCap_ge w4 p.size 0 5
    have hc2 := grownCap_le_maxLen w4 p.size 0 5 (by unfold maxLen; omega)
    have hsp := str_bl p
    have hrb := hown.rb (n := p.size) (bl_size p) hc1 hc2
    generalize grownCap w4 p.size 0 5 = cap at *
    generalize Go.Lib.bytesWorld w4 5 p = w5 at *
    have hbb := hbb.trans (hb5.mono hbb.size)
    have hcv2 := run_string_RB w5 30 5 9 Try.underlying30 Try.underlying5 Try.underlying9 _ _ hrb
    rw [hsp] at hcv2
    clear hrb hown hb5 hc1 hc2 hsp
    go_wp2_with fail
    refine (C2.out _).mono ?_
    rintro e w6 ⟨rfl, hc⟩
    have hbb := hbb.trans (hc.mono hbb.size)
    clear hc
    go_wp2_with fail
    go_ret
    exact ⟨rfl, hbb⟩

/-! ### THE ROW's STEP: WRITTEN OUT: LEAVE IT -/
set_option maxRecDepth 100000 in
theorem lifted (os : Os) (started : os.Started) (H : Type) (enc : TypeId × Value → H) :
    ReturnsInHanded {} Try.checked os 8 .any (Rows.hashSameSpec.pre6 enc Try.prog Try.f8 Rows.hashSameRow.domain false) (Rows.hashSameSpec.post enc Try.prog Try.f8 false true false false) := by
  refine returnsInHanded_of_change (C := Try.checked) own started (by kernel_rfl) Try.func8
    (ChangeSpec.witness6 (enc := enc) (C := Try.checked) false ⟨#[], #[.string ByteArray.empty, .int .i32 0], []⟩ 8 (by kernel_rfl) (by kernel_rfl) (by kernel_rfl) (by kernel_rfl)) ?_
  intro W base args ds gs before hval0 hW hcnd _
  have hval : ∀ (j : Nat) t v, Try.f8.params[j]? = some t → args[j]? = some v → Value.okWide Try.prog W .any base t v := hval0
  have hW' := hW
  obtain ⟨p, q, hA0, hV, rfl, hfz, hnd⟩ := hW
  have hA : DataW.TrodAll enc Try.prog W 0 (fun _ => true) true Try.f8.params.toList args.toList ds p := hA0
  rw [Try.params8] at hA hval
  obtain ⟨v0, vs0, d0, ds0, p0, q0, hargs, rfl, rfl, h0, r0⟩ := trodAll_cons hA
  obtain ⟨v1, vs1, d1, ds1, p1, q1, rfl, rfl, rfl, h1, r1⟩ := trodAll_cons r0
  obtain ⟨rfl, rfl, rfl⟩ := trodAll_nil r1
  obtain rfl : args = #[v0, v1] := by cases args; simp_all
  obtain ⟨rfl, rfl⟩ := trodVars_none hV
  obtain ⟨a0, rfl, rfl, rfl, w0⟩ := open_string Try.underlying9 (hval 0 9 v0 rfl rfl) h0
  obtain ⟨a1, rfl, rfl, rfl, w1⟩ := open_int Try.underlying21 (hval 1 21 v1 rfl rfl) h1
  clear hA0 hval0
  refine (walk a0 a1 w0 w1 W).mono fun e W' ⟨he, hg⟩ => ?_
  subst he
  exact ⟨_, rfl, _, _, _, [], _, [], hW', (trodAll_cons_mk (shut_bool Try.underlying4 _) trodAll_mk0), (trodAll_cons_mk (shut_string Try.underlying9 w0) (trodAll_cons_mk (shut_int Try.underlying21 w1) trodAll_mk0)), rfl, hg.frame _, fun h => by cases h⟩

theorem over : Rows.hashSameRow.holds Try.pinned (OpenSpec.ofChange Rows.hashSameSpec) :=
  OpenClaim.holds_of_wide 8 Try.f8 rfl rfl rfl rfl rfl rfl rfl ⟨rfl, rfl, rfl, rfl, rfl⟩ rfl rfl rfl rfl rfl (by kernel_rfl) Try.func8 (by kernel_rfl)
    (of_decide_eq_true (by kernel_rfl)) (by unfold Func.isWrapper; first | (rw [if_pos (by decide +kernel)]; kernel_rfl) | (rw [if_neg (by decide +kernel)]; exact ⟨rfl, rfl⟩))
    (fun os started H enc _ => lifted os started H enc)

/-- ████ THE STATEMENT ████ -/
theorem proved : Rows.HashSameSaid :=
  over
#print axioms proved
end Go.Proofs.Ytlmfdpdcffnocaa.hashSame
