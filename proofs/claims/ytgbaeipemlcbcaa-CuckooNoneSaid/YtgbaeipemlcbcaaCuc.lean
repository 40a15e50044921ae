/-
  Package cuckoo, as the laws meet it.
-/
import Derived.Test.YtgbaeipemlcbcaaCucN
import Derived.Test.YtgbaeipemlcbcaaCucT
namespace Go.Proofs.Ytgbaeipemlcbcaa
open Go.RowKit

theorem way_fits {T : SlT} {es : List EnT} (hf : Fits T es) {x : Nat} {i : Int} {W : List (Nat × Nat)} (h : WayOk T (firstN x) (othN (firstN x) (tagN x)) W) (hne : W ≠ []) : Fits (shiftT T (some (tagN x, i)) W).1 (es ++ [(x, i)]) := by
  rcases h with ⟨h, -⟩ | ⟨c, P, e, s, hc, rfl, h1, h2, h3, h4, h5, h6⟩
  · exact absurd h hne
  · refine shift_fits hf h1 h2 h3 h4 h5 h6 ?_
    unfold keyH
    rcases hc with rfl | rfl
    · rfl
    · exact keyN_oth _ (first_lt x)
section
variable {w : World} {d : Nat} {T : SlT} {es : List EnT}
theorem cinsert_yes (h : CK w d T) (hf : Fits T es) {x : Nat} {i : Int} (hx : x < 18446744073709551616) (hi : idOk i = true) (hr : roomB (es.map Prod.fst ++ [x]) = true) :
    Calls Try.prog 10 #[.pointer (some ⟨d, 0, none⟩), .int .u64 (x : Int), .int .i64 i] w fun e w' => e = .returned (.bool true) ∧ (∃ T', CK w' d T' ∧ Fits T' (es ++ [(x, i)])) ∧ Off1 d w w' := by
  refine (cinsert_w h hx hi).mono ?_
  rintro e w' ⟨W, hW, ⟨rfl, -, -⟩ | ⟨hne, rfl, hck, hoff⟩⟩
  · rcases hW with ⟨-, L, h1, h2⟩ | ⟨c, P, e, s, -, h0, -⟩
    · rw [stuck hf h1 h2] at hr
      cases hr
    · simp at h0
  · exact ⟨rfl, ⟨_, hck, way_fits hf hW hne⟩, hoff⟩
theorem cinsert_none (v : Option Addr) {x : Nat} {i : Int} (w : World) (hi : v = none ∨ idOk i = false) :
    Calls Try.prog 10 #[.pointer v, .int .u64 (x : Int), .int .i64 i] w fun e w' => e = .returned (.bool false) ∧ Below w.heap.size w w' := by
  have HB := Go.Lib.hid (Below.refl w.heap.size w)
  cases v with
  | none =>
    clear hi
    go_enter Try.func10, Try.ntmps10
    go_wp2_with fail
    go_ret
    exact ⟨rfl, HB.out⟩
  | some a =>
    have hi2 : idOk i = false := by
      rcases hi with h | h
      · cases h
      · exact h
    have MC := Go.Lib.hid (fun W => cmay_c i W)
    rw [hi2] at MC
    clear hi hi2
    go_enter Try.func10, Try.ntmps10
    go_wp2_with fail
    refine (MC.out _).mono ?_
    rintro e w1 ⟨rfl, rfl⟩
    go_wp2_with fail
    go_ret
    exact ⟨rfl, HB.out⟩
theorem cinsert_no (h : CK w d T) (hf : Fits T es) {x : Nat} {i : Int} (hx : x < 18446744073709551616) (_hw : (Lit.int .i64 i).wf = true) (hr : (idOk i && roomB (es.map Prod.fst ++ [x])) = false) :
    Calls Try.prog 10 #[.pointer (some ⟨d, 0, none⟩), .int .u64 (x : Int), .int .i64 i] w fun e w' => e = .returned (.bool false) ∧ Below w.heap.size w w' := by
  cases hi : idOk i with
  | false => exact cinsert_none _ w (.inr hi)
  | true =>
    rw [hi, Bool.true_and] at hr
    refine (cinsert_w h hx hi).mono ?_
    rintro e w' ⟨W, hW, ⟨rfl, rfl, hb⟩ | ⟨hne, -, -, -⟩⟩
    · exact ⟨rfl, hb⟩
    · have := room_of_fits (way_fits (i := i) hf hW hne)
      rw [List.map_append] at this
      exact absurd (this.symm.trans hr) (by simp)
end
theorem cnil_insert (x : Nat) (i : Int) (_hx : x < 18446744073709551616) (w : World) : Calls Try.prog 10 #[.pointer none, .int .u64 (x : Int), .int .i64 i] w fun e w' => e = .returned (.bool false) ∧ Below w.heap.size w w' := cinsert_none none w (.inl rfl)

end Go.Proofs.Ytgbaeipemlcbcaa
