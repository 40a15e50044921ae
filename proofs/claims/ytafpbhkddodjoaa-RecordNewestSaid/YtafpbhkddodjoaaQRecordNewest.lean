/- RecordNewest: of each key the last one, by rising keys; what is handed in stays: for every slice of records the law returns true. -/
import Derived.Test.YtafpbhkddodjoaaRows
import Derived.WalkKit
import Derived.ProofKit
import Derived.OpenShut
import Derived.ShutString
import Derived.ChangeOld
import Derived.Below
import Derived.Test.YtafpbhkddodjoaaM01
import Derived.Test.YtafpbhkddodjoaaM18
import Derived.Test.YtafpbhkddodjoaaM19
import Derived.Test.YtafpbhkddodjoaaM20
import Derived.Test.YtafpbhkddodjoaaM16
namespace Go.Proofs.Ytafpbhkddodjoaa.recordNewest
open Go.ChangeShapes Go.WideShapes Go.ChangeAt Go.RowKit
open Go.ChangeMaps (open_string shut_string)
set_option linter.unusedVariables false

theorem own : ownKnob Try.prog.godebug = none := by kernel_rfl
theorem laidOut : laidOutB Try.prog = true := by kernel_rfl

theorem setGo_sub (r : RecT) : ∀ (l : List RecT) (d : Bool) (y : RecT), y ∈ setGo keyR Go.Op.bytesLess r l d → y = r ∨ y ∈ l := by
  intro l
  induction l with
  | nil => intro d y h; cases d <;> simp [setGo] at h; exact .inl h
  | cons x t ih =>
    intro d y h
    rw [setGo, List.mem_append, List.mem_append] at h
    rcases h with h | h | h
    · split at h
      · exact .inl (by simpa using h)
      · cases h
    · split at h
      · cases h
      · exact .inr (by simp at h; rw [h]; exact List.mem_cons_self ..)
    · rcases ih _ y h with h | h
      · exact .inl h
      · exact .inr (List.mem_cons_of_mem _ h)
theorem newestR_sub (l : List RecT) (y : RecT) (h : y ∈ newestR l) : y ∈ l := by
  have : ∀ (l a : List RecT), y ∈ l.foldl (fun a r => setGo keyR Go.Op.bytesLess r a false) a → y ∈ l ∨ y ∈ a := by
    intro l
    induction l with
    | nil => intro a h; exact .inr h
    | cons r l ih =>
      intro a h
      rcases ih _ h with h | h
      · exact .inl (List.mem_cons_of_mem _ h)
      · rcases setGo_sub r a false y h with h | h
        · exact .inl (by rw [h]; exact List.mem_cons_self ..)
        · exact .inr h
  rcases this l [] h with h | h
  · exact h
  · cases h
theorem cut_small (l : List RecT) : ∀ x ∈ l.map cutR, x.1.size ≤ 1000 ∧ x.2.2.2.2.size ≤ 1000 := by
  intro x hx
  obtain ⟨y, -, rfl⟩ := List.mem_map.1 hx
  unfold cutR
  simp only [str_size, List.length_take]
  omega

set_option maxHeartbeats 1000000 in
set_option maxRecDepth 100000 in
theorem walk (w : World) (a0 : Option Addr) (len0 cap0 : Nat) (l0 : List RecT) (w0 : RRec w (.slice a0 len0 cap0) l0) :
    Calls Try.prog 5 #[.slice a0 len0 cap0] w fun e w' => e = .returned (.bool true) ∧ Below w.heap.size w w' := by
  have C1 := Go.Lib.hid fun W (h : RRec W (.slice a0 len0 cap0) l0) => recs_c (.slice a0 len0 cap0) l0 30 W h (by omega)
  have hlm : ((l0.take 30).map cutR).length ≤ 30 := by rw [List.length_map, List.length_take]; omega
  have hcs := cut_small (l0.take 30)
  generalize (l0.take 30).map cutR = l at *
  have hn : newestR (newestR l) = newestR l := newestK_twice ordR l
  have hnl := newestR_len l
  have C2 := Go.Lib.hid fun v W (h : RS W v l) => pnewest_c v l W h (by omega) hcs
  have C3 := Go.Lib.hid fun v W (h : RS W v l) => rnewest_c v l W h (by omega)
  have c4 := fun v W (h : RS W v (newestR l)) => pnewest_c v (newestR l) W h (by omega) (fun x hx => hcs x (newestR_sub l x hx))
  rw [hn] at c4
  have C4 := Go.Lib.hid c4; clear c4 hn hnl hcs
  generalize newestR l = n at *
  have c5 := fun u v W (h : RS W u n) (g : RS W v n) => reqrecs_c u v n n W h g
  have c6 := fun u v W (h : RS W u l) (g : RS W v l) => reqrecs_c u v l l W h g
  rw [decide_eq_true (rfl : n = n)] at c5
  rw [decide_eq_true (rfl : l = l)] at c6
  have C5 := Go.Lib.hid c5; clear c5
  have C6 := Go.Lib.hid c6; clear c6
  have Hlm := Go.Lib.hid hlm; clear hlm
  go_enter Try.func5, Try.ntmps5
  go_wp2_with fail
  refine (begun_c _).mono ?_
  rintro e w1 ⟨rfl, hbb⟩
  go_wp2_with fail
  refine (C1.out _ (w0.below hbb)).mono ?_
  rintro e w2 ⟨v2, rfl, own2, hc⟩
  have hbb := hbb.trans (hc.mono hbb.size)
  have hrs := own2.rs
  have hbw := hbb.size
  clear hc own2 w0
  go_wp2_with (first
    | (with_reducible show wpList _ _ _ (⟨some 12, _, _, _, _, _⟩ :: _) _ _; go_loud (refine wpList_append_recs rfl (.const (.slice none 0 0)) (.tmp 11) rfl w2.heap.size (.slice none 0 0) v2 [] l rfl rfl (OwnRec.nil _ _) hrs (by have := Hlm.out; simp; omega) (Nat.le_refl _) ?_); intro v3 w3 hown3 hg3; have hb3 := grown_below hg3 (Nat.le_refl _) (by simp [Value.ownBlock]); have hrs2 := hrs.below hb3; have hrs3 := hown3.rs; have hbb := hbb.trans (hb3.mono hbw); clear hg3 hb3 hown3)
    | fail)
  refine (C2.out _ _ hrs2).mono ?_
  rintro e w4 ⟨v4, rfl, own4, hc⟩
  have hL := hrs2.below hc
  have hO := hrs3.below hc
  have hN := own4.rs
  have hbb := hbb.trans (hc.mono hbb.size)
  clear hc hrs hrs2 hrs3 own4
  go_wp2_with fail
  refine (C3.out _ _ hO).mono ?_
  rintro e w5 ⟨v5, rfl, own5, hc⟩
  have hL := hL.below hc
  have hO := hO.below hc
  have hN := hN.below hc
  have hbb := hbb.trans (hc.mono hbb.size)
  go_wp2_with fail
  refine (C5.out _ _ _ hN own5.rs).mono ?_
  rintro e w6 ⟨rfl, hc⟩
  have hL := hL.below hc
  have hO := hO.below hc
  have hN := hN.below hc
  have hbb := hbb.trans (hc.mono hbb.size)
  go_wp2_with fail
  refine (C6.out _ _ _ hL hO).mono ?_
  rintro e w7 ⟨rfl, hc⟩
  have hN := hN.below hc
  have hbb := hbb.trans (hc.mono hbb.size)
  go_wp2_with fail
  refine (C4.out _ _ hN).mono ?_
  rintro e w8 ⟨v8, rfl, own8, hc⟩
  have hN := hN.below hc
  have hbb := hbb.trans (hc.mono hbb.size)
  go_wp2_with fail
  refine (C5.out _ _ _ own8.rs hN).mono ?_
  rintro e w9 ⟨rfl, hc⟩
  have hbb := hbb.trans (hc.mono hbb.size)
  go_wp2_with fail
  go_ret
  exact ⟨rfl, hbb⟩

/-! ### THE ROW -/
set_option maxRecDepth 100000 in
theorem lifted (os : Os) (started : os.Started) (H : Type) (enc : TypeId × Value → H) :
    ReturnsInHanded {} Try.checked os 5 .any (Rows.recordNewestSpec.pre6 enc Try.prog Try.f5 Rows.recordNewestRow.domain false) (Rows.recordNewestSpec.post enc Try.prog Try.f5 false true false false) := by
  refine returnsInHanded_of_change (C := Try.checked) own started (by kernel_rfl) Try.func5
    (ChangeSpec.witness6 (enc := enc) (C := Try.checked) false ⟨#[], #[.slice none 0 0], []⟩ 8 (by kernel_rfl) (by kernel_rfl) (by kernel_rfl) (by kernel_rfl)) ?_
  intro W base args ds gs before hval0 hW hcnd _
  have hval : ∀ (j : Nat) t v, Try.f5.params[j]? = some t → args[j]? = some v → Value.okWide Try.prog W .any base t v := hval0
  have hW' := hW
  obtain ⟨p, q, hA0, hV, rfl, hfz, hnd⟩ := hW
  have hA : DataW.TrodAll enc Try.prog W 0 (fun _ => true) true Try.f5.params.toList args.toList ds p := hA0
  rw [Try.params5] at hA hval
  obtain ⟨v0, vs0, d0, ds0, p0, q0, hargs, rfl, rfl, h0, r0⟩ := trodAll_cons hA
  obtain ⟨rfl, rfl, rfl⟩ := trodAll_nil r0
  obtain rfl : args = #[v0] := by cases args; simp_all
  obtain ⟨rfl, rfl⟩ := trodVars_none hV
  have kk0 := h0
  have lt0 : ∀ x ∈ p0, x.block < W.heap.size := by obtain ⟨m, hm⟩ := kk0; exact DataW.trod_lt m _ _ _ hm
  obtain ⟨a0, len0, cap0, rfl⟩ := okWide_slice Try.underlying40 (hval 0 40 v0 rfl rfl)
  obtain ⟨l0, w0⟩ := open_recs h0
  clear hA0 hval0
  refine (walk W a0 len0 cap0 l0 w0).mono fun e W' ⟨he, bel⟩ => ?_
  subst he
  exact ⟨_, rfl, _, _, _, [], _, [], hW', trodAll_mk1 (shut_bool Try.underlying4 _), (trodAll_cons_mk (Below.trod laidOut (by kernel_rfl) (of_decide_eq_true (by kernel_rfl)) kk0 bel lt0) trodAll_mk0), rfl, bel.frame _, fun h => by cases h⟩

theorem over : Rows.recordNewestRow.holds Try.pinned (OpenSpec.ofChange Rows.recordNewestSpec) :=
  OpenClaim.holds_of_wide 5 Try.f5 rfl rfl rfl rfl rfl rfl rfl ⟨rfl, rfl, rfl, rfl, rfl⟩ rfl rfl rfl rfl rfl (by kernel_rfl) Try.func5 (by kernel_rfl)
    (of_decide_eq_true (by kernel_rfl)) (by unfold Func.isWrapper; first | (rw [if_pos (by decide +kernel)]; kernel_rfl) | (rw [if_neg (by decide +kernel)]; exact ⟨rfl, rfl⟩))
    (fun os started H enc _ => lifted os started H enc)

theorem proved : Rows.RecordNewestSaid := over
#print axioms proved
end Go.Proofs.Ytafpbhkddodjoaa.recordNewest
