/- KeyFold: folded twice is folded once; no length is turned; what has no great letter stays: for every text the law returns true. -/
import Derived.Test.YthknafjnmondeaaRows
import Derived.WalkKit
import Derived.ProofKit
import Derived.OpenShut
import Derived.ShutString
import Derived.Test.YthknafjnmondeaaBegun5
import Derived.Test.YthknafjnmondeaaRValid
import Derived.Test.YthknafjnmondeaaLCut
namespace Go.Proofs.Ythknafjnmondeaa.keyFold
open Go.ChangeShapes Go.WideShapes Go.ChangeAt Go.RowKit
open Go.ChangeMaps (open_string shut_string)
set_option linter.unusedVariables false      -- a walk need not use every 'w<i>' (that an integer argument fits its kind)

theorem own : ownKnob Try.prog.godebug = none := by kernel_rfl

set_option maxHeartbeats 2000000 in
set_option maxRecDepth 100000 in
theorem walk (a0 : ByteArray) (w0 : a0.size ≤ maxLen) (w : World) :
    Calls Try.prog 6 #[.string a0] w fun e w' => e = .returned (.bool true) ∧ Below w.heap.size w w' := by
  have L0 := Go.Lib.hid fun W => lcut_c a0 40 W w0 (by omega)
  have hp : (str ((bl a0).take 40)).size ≤ 40 := by rw [str_size, List.length_take]; omega
  generalize str ((bl a0).take 40) = p at *
  have hff : str (foldL (bl (str (foldL (bl p))))) = str (foldL (bl p)) := by rw [bl_str, fold_fold]
  have hfl : (str (foldL (bl p))).size = p.size := by rw [str_size, fold_len, ← bl_size]
  have c1 := fun W => kfold_c p W (by omega)
  have c2 := fun W => kfold_c (str (foldL (bl p))) W (by omega)
  rw [hff] at c2
  have c3 := fun W => kmay_c (str (foldL (bl p))) W (by omega)
  have c4 := fun W => kmay_c p W (by omega)
  have hmk : mayK (str (foldL (bl p))) = mayK p := by unfold mayK; rw [hfl]
  rw [hmk] at c3
  have hsame : ((str (foldL (bl p))).toList == p.toList) = !((bl p).any great) := by
    rw [ByteArray.toList_eq, ByteArray.toList_eq]
    have := fold_same (bl p)
    show ((bl (str (foldL (bl p)))) == bl p) = _
    rw [bl_str]
    cases hg : (bl p).any great with
    | false => simp [this.2 hg]
    | true =>
      have hn : foldL (bl p) ≠ bl p := fun e => by rw [this.1 e] at hg; cases hg
      simpa using hn
  have hsz := bl_size p
  clear hff hmk w0
  generalize str (foldL (bl p)) = f at *
  generalize mayK p = m at *
  have C1 := Go.Lib.hid c1; clear c1
  have C2 := Go.Lib.hid c2; clear c2
  have C3 := Go.Lib.hid c3; clear c3
  have C4 := Go.Lib.hid c4; clear c4
  have Hsame := Go.Lib.hid hsame; clear hsame
  have Hsz := Go.Lib.hid hsz; clear hsz
  have Hfl := Go.Lib.hid hfl; clear hfl
  go_enter Try.func6, Try.ntmps6
  go_wp2_with fail
  refine (begun_c _).mono ?_
  rintro e w1 ⟨rfl, hbb⟩
  go_wp2_with fail
  refine (L0.out _).mono ?_
  rintro e w2 ⟨rfl, rfl⟩
  go_wp2_with fail
  refine (C1.out _).mono ?_
  rintro e u1 ⟨rfl, hc⟩
  have hbb := hbb.trans (hc.mono hbb.size)
  clear hc
  go_wp2_with fail
  clear L0
  go_loop [5, 6] (fun t i => ∃ k : Nat, k ≤ p.size ∧ i = .int .i64 (k : Int) ∧ t = .bool (((bl p).take k).any great)) (fun _ i => p.size - (intOf i).toNat)
  case atStart => exact ⟨0, by omega, rfl, rfl⟩
  case round =>
    obtain ⟨k, hk, rfl, rfl⟩ := hrel
    by_cases hlt : k < p.size
    · have hlb : k < (bl p).length := by rw [← bl_size]; exact hlt
      have hstep : ((bl p).take (k + 1)).any great = (((bl p).take k).any great || great (bl p)[k]) := by rw [List.take_succ_eq_append_getElem hlb, List.any_append]; simp
      have hget : p[k] = (bl p)[k] := by simp [bl]; rfl
      obtain ⟨t, ht⟩ : ∃ t, t = ((bl p).take k).any great := ⟨_, rfl⟩
      obtain ⟨c, hcc⟩ : ∃ c, c = (bl p)[k] := ⟨_, rfl⟩
      rw [← ht, ← hcc] at hstep
      rw [← ht]
      rw [← hcc] at hget
      have hpn : (p[k].toNat : Int) = (c.toNat : Int) := by rw [hget]
      clear hget
      have Hstep := Go.Lib.hid hstep; clear hstep ht hcc
      cases t with
      | true =>
        go_wp2_with fail
        go_round
        case rel => exact ⟨k + 1, by omega, by go_num, by rw [Hstep.out]; rfl⟩
        case measure => simp [intOf]; omega
      | false =>
        by_cases h1 : (p[k].toNat : Int) < 65
        · have hg : Hid (great c = false) := by unfold Hid great; simp; omega
          go_wp2_with fail
          go_round
          case rel => exact ⟨k + 1, by omega, by go_num, by rw [Hstep.out, hg.out]; exact congrArg Value.bool (by first | rfl | (simp; omega))⟩
          case measure => simp [intOf]; omega
        · by_cases h2 : 90 < (p[k].toNat : Int)
          · have hg : Hid (great c = false) := by unfold Hid great; simp; omega
            go_wp2_with fail
            go_round
            case rel => exact ⟨k + 1, by omega, by go_num, by rw [Hstep.out, hg.out]; exact congrArg Value.bool (by first | rfl | (simp; omega))⟩
            case measure => simp [intOf]; omega
          · have hg : Hid (great c = true) := by unfold Hid great; simp; omega
            go_wp2_with fail
            go_round
            case rel => exact ⟨k + 1, by omega, by go_num, by rw [Hstep.out, hg.out]; exact congrArg Value.bool (by first | rfl | (simp; omega))⟩
            case measure => simp [intOf]; omega
    · obtain rfl : k = p.size := by omega
      have ht := Hsame.out
      rw [List.take_of_length_le (by rw [bl_size]; exact Nat.le_refl _)]
      generalize (bl p).any great = t at *
      have hfl := Hfl.out
      clear Hfl hlt Hsz
      clear Hsame
      go_wp2_with fail
      refine (C2.out _).mono ?_
      rintro e u2 ⟨rfl, hc⟩
      have hbb := hbb.trans (hc.mono hbb.size)
      clear hc
      go_wp2_with fail
      refine (C3.out _).mono ?_
      rintro e u3 ⟨rfl, hc⟩
      have hbb := hbb.trans (hc.mono hbb.size)
      clear hc
      go_wp2_with fail
      refine (C4.out _).mono ?_
      rintro e u4 ⟨rfl, hc⟩
      have hbb := hbb.trans (hc.mono hbb.size)
      clear hc
      go_wp2_with fail
      go_ret
      exact ⟨rfl, hbb⟩

/-! ### THE ROW's STEP: WRITTEN OUT: LEAVE IT -/
set_option maxRecDepth 100000 in
theorem lifted (os : Os) (started : os.Started) (H : Type) (enc : TypeId × Value → H) :
    ReturnsInHanded {} Try.checked os 6 .any (Rows.keyFoldSpec.pre6 enc Try.prog Try.f6 Rows.keyFoldRow.domain false) (Rows.keyFoldSpec.post enc Try.prog Try.f6 false true false false) := by
  refine returnsInHanded_of_change (C := Try.checked) own started (by kernel_rfl) Try.func6
    (ChangeSpec.witness6 (enc := enc) (C := Try.checked) false ⟨#[], #[.string ByteArray.empty], []⟩ 8 (by kernel_rfl) (by kernel_rfl) (by kernel_rfl) (by kernel_rfl)) ?_
  intro W base args ds gs before hval0 hW hcnd _
  have hval : ∀ (j : Nat) t v, Try.f6.params[j]? = some t → args[j]? = some v → Value.okWide Try.prog W .any base t v := hval0
  have hW' := hW
  obtain ⟨p, q, hA0, hV, rfl, hfz, hnd⟩ := hW
  have hA : DataW.TrodAll enc Try.prog W 0 (fun _ => true) true Try.f6.params.toList args.toList ds p := hA0
  rw [Try.params6] at hA hval
  obtain ⟨v0, vs0, d0, ds0, p0, q0, hargs, rfl, rfl, h0, r0⟩ := trodAll_cons hA
  obtain ⟨rfl, rfl, rfl⟩ := trodAll_nil r0
  obtain rfl : args = #[v0] := by cases args; simp_all
  obtain ⟨rfl, rfl⟩ := trodVars_none hV
  obtain ⟨a0, rfl, rfl, rfl, w0⟩ := open_string Try.underlying9 (hval 0 9 v0 rfl rfl) h0
  clear hA0 hval0
  refine (walk a0 w0 W).mono fun e W' ⟨he, hg⟩ => ?_
  subst he
  exact ⟨_, rfl, _, _, _, [], _, [], hW', (trodAll_cons_mk (shut_bool Try.underlying4 _) trodAll_mk0), (trodAll_cons_mk (shut_string Try.underlying9 w0) trodAll_mk0), rfl, hg.frame _, fun h => by cases h⟩

theorem over : Rows.keyFoldRow.holds Try.pinned (OpenSpec.ofChange Rows.keyFoldSpec) :=
  OpenClaim.holds_of_wide 6 Try.f6 rfl rfl rfl rfl rfl rfl rfl ⟨rfl, rfl, rfl, rfl, rfl⟩ rfl rfl rfl rfl rfl (by kernel_rfl) Try.func6 (by kernel_rfl)
    (of_decide_eq_true (by kernel_rfl)) (by unfold Func.isWrapper; first | (rw [if_pos (by decide +kernel)]; kernel_rfl) | (rw [if_neg (by decide +kernel)]; exact ⟨rfl, rfl⟩))
    (fun os started H enc _ => lifted os started H enc)

/-- ████ THE STATEMENT ████ -/
theorem proved : Rows.KeyFoldSaid :=
  over
#print axioms proved
end Go.Proofs.Ythknafjnmondeaa.keyFold
