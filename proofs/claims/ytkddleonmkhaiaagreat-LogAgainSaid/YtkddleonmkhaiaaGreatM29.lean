/-
  Stage 18: Of.
  The record that is all zero; a record, if there is one.
  Slices of records: contract of the reference's Newest.
-/
import Derived.Test.YtkddleonmkhaiaaGreatM28
import Derived.LoopTactic
import Derived.Test.YtkddleonmkhaiaaGreatM21
import Derived.Test.YtkddleonmkhaiaaGreatM25
import Derived.Test.YtkddleonmkhaiaaGreatM09
namespace Go.Proofs.YtkddleonmkhaiaaGreat
open Go.RowKit

/-- Puts, one behind the other, up to the first error. -/
def runP : List RecT → List RecT → Int × List RecT
  | L, [] => (0, L)
  | L, x :: t => if putE L x = 0 then runP (putN L x) t else (putE L x, L)
theorem runP_step {L l : List RecT} {k : Nat} (hk : k < l.length) (h0 : putE L l[k] = 0) : runP L (l.drop k) = runP (putN L l[k]) (l.drop (k + 1)) := by
  rw [List.drop_eq_getElem_cons hk, runP, if_pos h0]
theorem runP_stop {L l : List RecT} {k : Nat} (hk : k < l.length) (h0 : putE L l[k] ≠ 0) : runP L (l.drop k) = (putE L l[k], L) := by
  rw [List.drop_eq_getElem_cons hk, runP, if_neg h0]
theorem runP_end (L l : List RecT) : runP L (l.drop l.length) = (0, L) := by rw [List.drop_length]; rfl

/-- What Of answers: a log (from block B on), or none and the error. -/
def OfOut (r : Int × List RecT) (B : Nat) (e : Ending) (w' : World) : Prop :=
  (r.1 = 0 ∧ ∃ p d v, e = .returned (.tuple #[.pointer (some ⟨p, 0, none⟩), .int .i64 0]) ∧ LG w' B p d v r.2) ∨ (r.1 ≠ 0 ∧ e = .returned (.tuple #[.pointer none, .int .i64 r.1]))

set_option maxHeartbeats 1000000 in
set_option maxRecDepth 100000 in
theorem lof_c (v : Value) (l : List RecT) (w : World) (hv : RS w v l) (hs : ∀ x ∈ l, x.1.size ≤ maxLen ∧ x.2.2.2.2.size ≤ maxLen) :
    Calls Tryz.prog 21 #[v] w fun e w' => OfOut (runP [] l) w.heap.size e w' ∧ Below w.heap.size w w' := by
  obtain ⟨a, cap, rfl, hm⟩ := hv.form
  have HR := Go.Lib.hid hv
  have HS := Go.Lib.hid hs
  have CN := Go.Lib.hid (lnew_c w)
  clear hv hs
  go_enter Tryz.func21, Tryz.ntmps21
  go_wp2_with fail
  refine CN.out.mono ?_
  rintro e w1 ⟨p, d, rfl, hLG, hb⟩
  have HL1 := Go.Lib.hid hLG
  have HB1 := Go.Lib.hid hb
  clear hLG hb CN
  go_wp2_with fail
  go_loopw [6, 7, 11] (fun _ _ ki wr => ∃ (k : Nat) (L : List RecT) (u : Value), k ≤ l.length ∧ ki = .int .i64 (k : Int) ∧ Hid (LG wr w.heap.size p d u L) ∧ Hid (runP L (l.drop k) = runP [] l) ∧ Hid (Below w.heap.size w wr)) (fun _ _ ki _ => l.length - (intOf ki).toNat)
  case atStart => exact ⟨0, [], _, by omega, rfl, HL1, Go.Lib.hid (by simp), HB1⟩
  case round =>
    obtain ⟨k, L, u, hk, rfl, HL, HRUN, HB⟩ := hrel
    by_cases hlt : k < l.length
    · obtain ⟨b, o, rfl, -, -, c0, c1, c2, c3, c4⟩ := (HR.out.below HB.out).at k hlt
      have hix := run_idx5 b o l.length cap k hlt
      have hsz := HS.out _ (List.getElem_mem hlt)
      have HST := Go.Lib.hid fun h => (runP_step (L := L) hlt h).symm.trans HRUN.out
      have HSP := Go.Lib.hid fun h => (runP_stop (L := L) hlt h).symm.trans HRUN.out
      generalize l[k] = x at *
      obtain ⟨kx, gx, ax, nx, sx⟩ := x
      simp only [] at c0 c1 c2 c3 c4 hsz
      have hb2 := below_one wr (.cells #[.string kx, .bool gx, .int .i64 ax, .int .i64 nx, .string sx] 33)
      have CP := lput_w (HL.out.below hb2) kx gx ax nx sx hsz.1 hsz.2
      unfold recV at CP
      have CP := Go.Lib.hid CP
      have HB2 := Go.Lib.hid (HB.out.trans (hb2.mono HB.out.size))
      have HL2 := Go.Lib.hid (HL.out.below hb2)
      clear hsz hb2
      go_wp2_with fail
      refine CP.out.mono ?_
      rintro e w2 ⟨rfl, ⟨u2, hlg, -⟩, hoff⟩
      have HL3 := Go.Lib.hid hlg
      have HB3 := Go.Lib.hid (HB2.out.trans (HL2.out.offBelow hoff))
      clear hlg hoff CP c0 c1 c2 c3 c4 hix
      by_cases h0 : putE L (kx, gx, ax, nx, sx) = 0
      · have HN := Go.Lib.hid (HST.out h0)
        rw [h0]
        clear h0 HST HSP
        go_wp2_with fail
        exact ⟨⟨k + 1, _, _, by omega, by go_num, HL3, HN, HB3⟩, by simp only [intOf]; omega⟩
      · have HN := Go.Lib.hid (HSP.out h0)
        obtain ⟨E, hE⟩ : ∃ E, E = putE L (kx, gx, ax, nx, sx) := ⟨_, rfl⟩
        rw [← hE] at h0 HN ⊢
        have hEb : (E == 0) = false := beq_eq_false_iff_ne.2 h0
        have H0 := Go.Lib.hid h0
        clear hE HST HSP
        go_wp2_with fail
        go_ret2
        refine ⟨.inr ?_, HB3.out⟩
        rw [← HN.out]
        exact ⟨H0.out, rfl⟩
    · obtain rfl : k = l.length := by omega
      have HN := Go.Lib.hid ((runP_end L l).symm.trans HRUN.out)
      clear HRUN
      go_wp2_with fail
      go_ret2
      refine ⟨.inl ?_, HB.out⟩
      rw [← HN.out]
      exact ⟨rfl, p, d, u, rfl, HL.out⟩

end Go.Proofs.YtkddleonmkhaiaaGreat

namespace Go.Proofs.YtkddleonmkhaiaaGreat
open Go.RowKit

def nullR : RecT := (⟨#[]⟩, false, 0, 0, ⟨#[]⟩)
/-- A record, if there is one. -/
def outR (o : Option RecT) : Value := .tuple #[recOf (o.getD nullR), .bool o.isSome]
theorem outR_some (x : RecT) : outR (some x) = .tuple #[recOf x, .bool true] := rfl
theorem outR_none : outR none = .tuple #[.agg #[.string ⟨#[]⟩, .bool false, .int .i64 0, .int .i64 0, .string ⟨#[]⟩], .bool false] := rfl

end Go.Proofs.YtkddleonmkhaiaaGreat

namespace Go.Proofs.YtkddleonmkhaiaaGreat
open Go.RowKit Go.Op

end Go.Proofs.YtkddleonmkhaiaaGreat
