/- SuperCrash: behind a crash in a save, at any call of the device, whatever of the loose sectors stays, the text ahead of it is there, or the one of it; then it saves on: for every input the law returns true. -/
import Derived.Test.YtiejjiccncmeiaaDoorCards
import Derived.Test.YtiejjiccncmeiaaDoorTie
import Derived.WalkKit
import Derived.ProofKit
import Derived.OpenShut
import Derived.ShutString
import Derived.ChangeOld
import Derived.Below
import Derived.Test.YtiejjiccncmeiaaDoorOpenB
import Derived.Test.YtiejjiccncmeiaaDoorBegun12
import Derived.Test.YtiejjiccncmeiaaDoorShort
import Derived.Deep.DeepHandedRow
import Derived.SevenTiedAt
import Derived.LaidMore
import Derived.Stop.Joined
namespace Go.Proofs.YtiejjiccncmeiaaDoor.superCrash
open Go.ChangeShapes Go.WideShapes Go.ChangeAt Go.RowKit
open Go.ChangeMaps (open_string shut_string)
set_option linter.unusedVariables false

theorem own : ownKnob Tryd.prog.godebug = none := by kernel_rfl
theorem laidOut : laidOutB Tryd.prog = true := by kernel_rfl

def IsRow (k : IntKind) (w : World) (a : Option Addr) (len cap : Nat) (zs : List Int) : Prop :=
  (a = none ∧ len = 0 ∧ cap = 0 ∧ zs = []) ∨
  ∃ x, a = some x ∧ len ≤ cap ∧ cap ≤ maxLen ∧ zs.length = cap ∧ (∀ i, i < zs.length → w.cell? (x.add i) = some (.int k (zs.getD i 0))) ∧ ∀ n ∈ zs, (Lit.int k n).wf = true

theorem tab_of {w : World} (L : laidMetH Tryd.prog Rows.superCrashRow.laid w) : Tab w := Tab.of (Lib.tabIs_of_head (rest := []) gNib (by kernel_rfl) Tryd.underlying73 Tryd.underlying70 (by kernel_rfl) (by kernel_rfl) L)

theorem fuse4 (F : Nat) : (lifeN (0 + 4)).fuseTo (F : Int) = ⟨4, true, (F : Int), decide ((F : Int) = 0)⟩ := by unfold Life.fuseTo lifeN; simp

/-- A save under whatever fuse; what a crash leaves of it. -/
theorem save_any {w : World} {B d g p F : Nat} {G : Nat → List UInt8} {v0 : Value} {A l : List UInt8} (h : DV w B d g 2 (calmS G) ⟨4, true, (F : Int), decide ((F : Int) = 0)⟩) (hs : SU w B p d 0 ⟨0, A, 1⟩) (hg : Good G 0 ⟨0, A, 1⟩) (hT : Tab w) (hB : 0 < B) (hv : ∀ w', Offs [d, g] w w' → RB w' v0 l) (hl : l.length ≤ 40) :
    Calls Tryd.prog 11 #[.pointer (some ⟨p, 0, none⟩), v0] w fun e w' => ∃ (r t : Int) (f' : Found) (S : Nat → Sec) (L' : Life), e = .returned (.int .i64 r) ∧ DV w' B d g 2 S L' ∧ SU w' B p d 0 f' ∧ (f'.turn : Int) = t ∧ Offs [d, g, p] w w' ∧
      (∀ keep, ∃ G', crS S keep = calmS G' ∧ (r = 0 ∧ t = 2 ∧ Good G' 0 ⟨1, l, 2⟩ ∨ r = 7 ∧ t = 1 ∧ Good G' 0 ⟨0, A, 1⟩ ∨ r = 7 ∧ t = 1 ∧ Good G' 0 ⟨1, l, 2⟩)) := by
  have hgs := hg.save hl (show 1 + 1 ≤ 1099511627776 by decide)
  by_cases h0 : F = 0
  · subst h0
    refine (ssave_dead h (by simp) hs hT (by decide) (hv w (Offs.refl _ _)) hl (show 1 + 1 ≤ 1099511627776 by decide)).mono ?_
    rintro e w' ⟨rfl, hb⟩
    refine ⟨7, 1, _, _, _, rfl, h.below hb, hs.below hb, rfl, Offs.of_below hb, fun keep => ⟨G, crS_calm G keep, .inr (.inl ⟨rfl, rfl, hg⟩)⟩⟩
  · have hdead : (⟨4, true, (F : Int), decide ((F : Int) = 0)⟩ : Life).dead = false := by simp; omega
    refine (ssave_wr h hdead (by show (4 : Int) < 999999; omega) hs hT (by decide) hv hl (show 1 + 1 ≤ 1099511627776 by decide) hB).mono ?_
    rintro e w' ⟨ho, hT', h1⟩
    rcases h1 with ⟨-, rfl, h2, h3⟩ | ⟨-, rfl, h2, h3⟩
    · refine ⟨7, 1, _, _, _, rfl, h2, h3, rfl, ho, fun keep => ?_⟩
      have h64 : (G (0 + (1 - 0))).length = 64 := h.whole64 (i := 1) (by decide)
      rcases crS_wr G (0 + (1 - 0)) (encS l (1 + 1)) keep with e | e
      · exact ⟨G, e, .inr (.inl ⟨rfl, rfl, hg⟩)⟩
      · rw [over_all (by rw [encS_length (by omega), h64])] at e
        exact ⟨_, e, .inr (.inr ⟨rfl, rfl, hgs⟩)⟩
    · exact ⟨0, 2, _, _, _, rfl, h2, h3, rfl, ho, fun keep => ⟨_, crS_calm _ keep, .inl ⟨rfl, rfl, hgs⟩⟩⟩

def V18E1 (q : Nat) (A B C : List UInt8) (tA tB tC : ByteArray) (aa ab ac : Option Addr) (na nb nc ca cb cc : Nat) : Nat → World → Value → Prop
  | 73, _, v => v = .pointer (some ⟨q, 0, none⟩)
  | 74, _, v => v = .int .i64 2
  | 75, _, v => v = .bool false
  | 76, _, v => v = .bool false
  | 77, _, v => v = undef
  | 78, _, v => v = undef
  | 79, _, v => v = undef
  | 80, _, v => v = undef
  | 81, _, v => v = undef
  | 82, _, v => v = undef
  | 83, _, v => v = .bool false
  | 19, _, v => v = .bool false
  | _, _, _ => True

theorem V18E1_below (q : Nat) (A B C : List UInt8) (tA tB tC : ByteArray) (aa ab ac : Option Addr) (na nb nc ca cb cc : Nat) : ∀ (i : Nat) (w w' : World) (v : Value), V18E1 q A B C tA tB tC aa ab ac na nb nc ca cb cc i w v → Below w.heap.size w w' → V18E1 q A B C tA tB tC aa ab ac na nb nc ca cb cc i w' v := by
  intro i w w' v h hb
  unfold V18E1 at h ⊢
  split at h <;> first | exact h | trivial | exact RB.below h hb | exact Own.below h hb

def V19E1 (q : Nat) (A B C : List UInt8) (tA tB tC : ByteArray) (aa ab ac : Option Addr) (na nb nc ca cb cc : Nat) : Nat → World → Value → Prop
  | 84, _, v => v = .pointer (some ⟨q, 0, none⟩)
  | 85, _, v => v = .int .i64 2
  | 86, _, v => v = .bool true
  | 87, _, v => v = .bool true
  | 88, _, v => v = .pointer (some ⟨q, 0, none⟩)
  | 89, w, v => RB w v B
  | 90, _, v => v = .string tB
  | 91, _, v => v = .slice ab nb cb
  | 92, _, v => v = .string tB
  | 93, _, v => v = .bool true
  | 94, _, v => v = .bool true
  | 20, _, v => v = .bool true
  | _, _, _ => True

theorem V19E1_below (q : Nat) (A B C : List UInt8) (tA tB tC : ByteArray) (aa ab ac : Option Addr) (na nb nc ca cb cc : Nat) : ∀ (i : Nat) (w w' : World) (v : Value), V19E1 q A B C tA tB tC aa ab ac na nb nc ca cb cc i w v → Below w.heap.size w w' → V19E1 q A B C tA tB tC aa ab ac na nb nc ca cb cc i w' v := by
  intro i w w' v h hb
  unfold V19E1 at h ⊢
  split at h <;> first | exact h | trivial | exact RB.below h hb | exact Own.below h hb

def V26E1 (u : Nat) (A B C : List UInt8) (tA tB tC : ByteArray) (aa ab ac : Option Addr) (na nb nc ca cb cc : Nat) : Nat → World → Value → Prop
  | 121, _, v => v = .int .i64 0
  | 122, _, v => v = .bool true
  | 123, _, v => v = .bool true
  | 124, _, v => v = .pointer (some ⟨u, 0, none⟩)
  | 125, _, v => v = .int .i64 3
  | 126, _, v => v = .int .i64 2
  | 127, _, v => v = .int .i64 3
  | 128, _, v => v = .bool true
  | 129, _, v => v = .bool true
  | 130, _, v => v = .bool true
  | 131, _, v => v = .pointer (some ⟨u, 0, none⟩)
  | 132, w, v => RB w v C
  | 133, _, v => v = .string tC
  | 134, _, v => v = .slice ac nc cc
  | 135, _, v => v = .string tC
  | 136, _, v => v = .bool true
  | 137, _, v => v = .bool true
  | 10, _, v => v = .bool true
  | _, _, _ => True

theorem V26E1_below (u : Nat) (A B C : List UInt8) (tA tB tC : ByteArray) (aa ab ac : Option Addr) (na nb nc ca cb cc : Nat) : ∀ (i : Nat) (w w' : World) (v : Value), V26E1 u A B C tA tB tC aa ab ac na nb nc ca cb cc i w v → Below w.heap.size w w' → V26E1 u A B C tA tB tC aa ab ac na nb nc ca cb cc i w' v := by
  intro i w w' v h hb
  unfold V26E1 at h ⊢
  split at h <;> first | exact h | trivial | exact RB.below h hb | exact Own.below h hb

def V18E2 (q : Nat) (A B C : List UInt8) (tA tB tC : ByteArray) (aa ab ac : Option Addr) (na nb nc ca cb cc : Nat) : Nat → World → Value → Prop
  | 73, _, v => v = .pointer (some ⟨q, 0, none⟩)
  | 74, _, v => v = .int .i64 1
  | 75, _, v => v = .bool true
  | 76, _, v => v = .bool true
  | 77, _, v => v = .pointer (some ⟨q, 0, none⟩)
  | 78, w, v => RB w v A
  | 79, _, v => v = .string tA
  | 80, _, v => v = .slice aa na ca
  | 81, _, v => v = .string tA
  | 82, _, v => v = .bool true
  | 83, _, v => v = .bool true
  | 19, _, v => v = .bool true
  | _, _, _ => True

theorem V18E2_below (q : Nat) (A B C : List UInt8) (tA tB tC : ByteArray) (aa ab ac : Option Addr) (na nb nc ca cb cc : Nat) : ∀ (i : Nat) (w w' : World) (v : Value), V18E2 q A B C tA tB tC aa ab ac na nb nc ca cb cc i w v → Below w.heap.size w w' → V18E2 q A B C tA tB tC aa ab ac na nb nc ca cb cc i w' v := by
  intro i w w' v h hb
  unfold V18E2 at h ⊢
  split at h <;> first | exact h | trivial | exact RB.below h hb | exact Own.below h hb

def V19E2 (q : Nat) (A B C : List UInt8) (tA tB tC : ByteArray) (aa ab ac : Option Addr) (na nb nc ca cb cc : Nat) : Nat → World → Value → Prop
  | 84, _, v => v = .pointer (some ⟨q, 0, none⟩)
  | 85, _, v => v = .int .i64 1
  | 86, _, v => v = .bool false
  | 87, _, v => v = .bool false
  | 88, _, v => v = undef
  | 89, _, v => v = undef
  | 90, _, v => v = undef
  | 91, _, v => v = undef
  | 92, _, v => v = undef
  | 93, _, v => v = undef
  | 94, _, v => v = .bool false
  | 20, _, v => v = .bool false
  | _, _, _ => True

theorem V19E2_below (q : Nat) (A B C : List UInt8) (tA tB tC : ByteArray) (aa ab ac : Option Addr) (na nb nc ca cb cc : Nat) : ∀ (i : Nat) (w w' : World) (v : Value), V19E2 q A B C tA tB tC aa ab ac na nb nc ca cb cc i w v → Below w.heap.size w w' → V19E2 q A B C tA tB tC aa ab ac na nb nc ca cb cc i w' v := by
  intro i w w' v h hb
  unfold V19E2 at h ⊢
  split at h <;> first | exact h | trivial | exact RB.below h hb | exact Own.below h hb

def V26E2 (u : Nat) (A B C : List UInt8) (tA tB tC : ByteArray) (aa ab ac : Option Addr) (na nb nc ca cb cc : Nat) : Nat → World → Value → Prop
  | 121, _, v => v = .int .i64 0
  | 122, _, v => v = .bool true
  | 123, _, v => v = .bool true
  | 124, _, v => v = .pointer (some ⟨u, 0, none⟩)
  | 125, _, v => v = .int .i64 2
  | 126, _, v => v = .int .i64 1
  | 127, _, v => v = .int .i64 2
  | 128, _, v => v = .bool true
  | 129, _, v => v = .bool true
  | 130, _, v => v = .bool true
  | 131, _, v => v = .pointer (some ⟨u, 0, none⟩)
  | 132, w, v => RB w v C
  | 133, _, v => v = .string tC
  | 134, _, v => v = .slice ac nc cc
  | 135, _, v => v = .string tC
  | 136, _, v => v = .bool true
  | 137, _, v => v = .bool true
  | 10, _, v => v = .bool true
  | _, _, _ => True

theorem V26E2_below (u : Nat) (A B C : List UInt8) (tA tB tC : ByteArray) (aa ab ac : Option Addr) (na nb nc ca cb cc : Nat) : ∀ (i : Nat) (w w' : World) (v : Value), V26E2 u A B C tA tB tC aa ab ac na nb nc ca cb cc i w v → Below w.heap.size w w' → V26E2 u A B C tA tB tC aa ab ac na nb nc ca cb cc i w' v := by
  intro i w w' v h hb
  unfold V26E2 at h ⊢
  split at h <;> first | exact h | trivial | exact RB.below h hb | exact Own.below h hb

def V18E3 (q : Nat) (A B C : List UInt8) (tA tB tC : ByteArray) (aa ab ac : Option Addr) (na nb nc ca cb cc : Nat) : Nat → World → Value → Prop
  | 73, _, v => v = .pointer (some ⟨q, 0, none⟩)
  | 74, _, v => v = .int .i64 2
  | 75, _, v => v = .bool false
  | 76, _, v => v = .bool false
  | 77, _, v => v = undef
  | 78, _, v => v = undef
  | 79, _, v => v = undef
  | 80, _, v => v = undef
  | 81, _, v => v = undef
  | 82, _, v => v = undef
  | 83, _, v => v = .bool false
  | 19, _, v => v = .bool false
  | _, _, _ => True

theorem V18E3_below (q : Nat) (A B C : List UInt8) (tA tB tC : ByteArray) (aa ab ac : Option Addr) (na nb nc ca cb cc : Nat) : ∀ (i : Nat) (w w' : World) (v : Value), V18E3 q A B C tA tB tC aa ab ac na nb nc ca cb cc i w v → Below w.heap.size w w' → V18E3 q A B C tA tB tC aa ab ac na nb nc ca cb cc i w' v := by
  intro i w w' v h hb
  unfold V18E3 at h ⊢
  split at h <;> first | exact h | trivial | exact RB.below h hb | exact Own.below h hb

def V19E3 (q : Nat) (A B C : List UInt8) (tA tB tC : ByteArray) (aa ab ac : Option Addr) (na nb nc ca cb cc : Nat) : Nat → World → Value → Prop
  | 84, _, v => v = .pointer (some ⟨q, 0, none⟩)
  | 85, _, v => v = .int .i64 2
  | 86, _, v => v = .bool true
  | 87, _, v => v = .bool true
  | 88, _, v => v = .pointer (some ⟨q, 0, none⟩)
  | 89, w, v => RB w v B
  | 90, _, v => v = .string tB
  | 91, _, v => v = .slice ab nb cb
  | 92, _, v => v = .string tB
  | 93, _, v => v = .bool true
  | 94, _, v => v = .bool true
  | 20, _, v => v = .bool true
  | _, _, _ => True

theorem V19E3_below (q : Nat) (A B C : List UInt8) (tA tB tC : ByteArray) (aa ab ac : Option Addr) (na nb nc ca cb cc : Nat) : ∀ (i : Nat) (w w' : World) (v : Value), V19E3 q A B C tA tB tC aa ab ac na nb nc ca cb cc i w v → Below w.heap.size w w' → V19E3 q A B C tA tB tC aa ab ac na nb nc ca cb cc i w' v := by
  intro i w w' v h hb
  unfold V19E3 at h ⊢
  split at h <;> first | exact h | trivial | exact RB.below h hb | exact Own.below h hb

def V26E3 (u : Nat) (A B C : List UInt8) (tA tB tC : ByteArray) (aa ab ac : Option Addr) (na nb nc ca cb cc : Nat) : Nat → World → Value → Prop
  | 121, _, v => v = .int .i64 0
  | 122, _, v => v = .bool true
  | 123, _, v => v = .bool true
  | 124, _, v => v = .pointer (some ⟨u, 0, none⟩)
  | 125, _, v => v = .int .i64 3
  | 126, _, v => v = .int .i64 2
  | 127, _, v => v = .int .i64 3
  | 128, _, v => v = .bool true
  | 129, _, v => v = .bool true
  | 130, _, v => v = .bool true
  | 131, _, v => v = .pointer (some ⟨u, 0, none⟩)
  | 132, w, v => RB w v C
  | 133, _, v => v = .string tC
  | 134, _, v => v = .slice ac nc cc
  | 135, _, v => v = .string tC
  | 136, _, v => v = .bool true
  | 137, _, v => v = .bool true
  | 10, _, v => v = .bool true
  | _, _, _ => True

theorem V26E3_below (u : Nat) (A B C : List UInt8) (tA tB tC : ByteArray) (aa ab ac : Option Addr) (na nb nc ca cb cc : Nat) : ∀ (i : Nat) (w w' : World) (v : Value), V26E3 u A B C tA tB tC aa ab ac na nb nc ca cb cc i w v → Below w.heap.size w w' → V26E3 u A B C tA tB tC aa ab ac na nb nc ca cb cc i w' v := by
  intro i w w' v h hb
  unfold V26E3 at h ⊢
  split at h <;> first | exact h | trivial | exact RB.below h hb | exact Own.below h hb

set_option maxHeartbeats 4000000 in
set_option maxRecDepth 100000 in
theorem walk (w : World) (L : laidMetH Tryd.prog Rows.superCrashRow.laid w) (a0 : Option Addr) (len0 cap0 : Nat) (z0 : List Int) (w0 : IsRow .u8 w a0 len0 cap0 z0) (a1 : Option Addr) (len1 cap1 : Nat) (z1 : List Int) (w1 : IsRow .u8 w a1 len1 cap1 z1) (a2 : Option Addr) (len2 cap2 : Nat) (z2 : List Int) (w2 : IsRow .u8 w a2 len2 cap2 z2) (a3 : Int) (w3 : (Lit.int .i64 a3).wf = true) (a4 : Option Addr) (len4 cap4 : Nat) (l4 : List Bool) (w4 : RV w (.slice a4 len4 cap4) (zb l4)) :
    Calls Tryd.prog 4 #[.slice a0 len0 cap0, .slice a1 len1 cap1, .slice a2 len2 cap2, .int .i64 a3, .slice a4 len4 cap4] w fun e w' => e = .returned (.bool true) ∧ Below w.heap.size w w' := by
  have hT := tab_of L
  obtain ⟨la, hla⟩ := rb_of_row w0
  obtain ⟨lb, hlb⟩ := rb_of_row w1
  obtain ⟨lc, hlc⟩ := rb_of_row w2
  clear L w0 w1 w2 w3
  have HT := Go.Lib.hid hT; clear hT
  have HK := Go.Lib.hid w4; clear w4
  go_enter Tryd.func4, Tryd.ntmps4
  go_wp2_with fail
  refine (begun_c _ HT.out).mono ?_
  rintro e w1 ⟨rfl, hb1⟩
  go_wp2_with fail
  refine (short_c _ la 40 _ (hla.below hb1) (by omega)).mono ?_
  rintro e w1' ⟨⟨va, rfl, hva⟩, rfl⟩
  go_wp2_with fail
  refine (short_c _ lb 40 _ (hlb.below hb1) (by omega)).mono ?_
  rintro e w1' ⟨⟨vb, rfl, hvb⟩, rfl⟩
  go_wp2_with fail
  refine (short_c _ lc 40 _ (hlc.below hb1) (by omega)).mono ?_
  rintro e w1' ⟨⟨vc, rfl, hvc⟩, rfl⟩
  have hA40 : (la.take 40).length ≤ 40 := List.length_take_le _ _
  have hB40 : (lb.take 40).length ≤ 40 := List.length_take_le _ _
  have hC40 : (lc.take 40).length ≤ 40 := List.length_take_le _ _
  obtain ⟨A, eA⟩ : ∃ A, A = la.take 40 := ⟨_, rfl⟩
  obtain ⟨B, eB⟩ : ∃ B, B = lb.take 40 := ⟨_, rfl⟩
  obtain ⟨C, eC⟩ : ∃ C, C = lc.take 40 := ⟨_, rfl⟩
  rw [← eA] at hva hA40
  rw [← eB] at hvb hB40
  rw [← eC] at hvc hC40
  clear eA eB eC hla hlb hlc
  obtain ⟨aa, ca, rfl⟩ := hva.slice
  obtain ⟨ab, cb, rfl⟩ := hvb.slice
  obtain ⟨ac, cc, rfl⟩ := hvc.slice
  obtain ⟨na, ena⟩ : ∃ n, n = A.length := ⟨_, rfl⟩
  obtain ⟨nb, enb⟩ : ∃ n, n = B.length := ⟨_, rfl⟩
  obtain ⟨nc, enc⟩ : ∃ n, n = C.length := ⟨_, rfl⟩
  rw [← ena] at hva ⊢
  rw [← enb] at hvb ⊢
  rw [← enc] at hvc ⊢
  have HA := Go.Lib.hid hva
  have HB := Go.Lib.hid hvb
  have HC := Go.Lib.hid hvc
  have HA40 := Go.Lib.hid hA40
  have HB40 := Go.Lib.hid hB40
  have HC40 := Go.Lib.hid hC40
  obtain ⟨tA, etA⟩ : ∃ t, t = str A := ⟨_, rfl⟩
  obtain ⟨tB, etB⟩ : ∃ t, t = str B := ⟨_, rfl⟩
  obtain ⟨tC, etC⟩ : ∃ t, t = str C := ⟨_, rfl⟩
  have HtA := Go.Lib.hid etA.symm
  have HtB := Go.Lib.hid etB.symm
  have HtC := Go.Lib.hid etC.symm
  have HB1 := Go.Lib.hid hb1
  clear hva hvb hvc hA40 hB40 hC40 ena enb enc etA etB etC hb1
  by_cases h1 : a3 < 0
  · go_wp2_with fail
    go_ret
    exact ⟨rfl, HB1.out⟩
  by_cases h2 : 5 < a3
  · go_wp2_with fail
    go_ret
    exact ⟨rfl, HB1.out⟩
  obtain ⟨F, rfl⟩ : ∃ F : Nat, a3 = (F : Int) := ⟨a3.toNat, by omega⟩
  clear h1
  have hF : F ≤ 5 := by omega
  have C1 := Go.Lib.hid (snew_c 2 w1)
  rw [show lenD 2 = 2 from rfl] at C1
  go_wp2_with fail
  refine C1.out.mono ?_
  rintro e w2 ⟨d, g, rfl, hd2, hb2⟩
  have C2 := smade_c (at_ := 0) hd2 (fun _ _ => rfl) (Tidy.calm _) (by decide) (HT.out.below (HB1.out.trans (hb2.mono HB1.out.size))) (by decide) rfl rfl (HA.out.keep hb2 hd2 (Nat.le_refl _)) HA40.out (HT.out.below HB1.out).low
  rw [show ((0 : Nat) : Int) = 0 from rfl] at C2
  have C2 := Go.Lib.hid C2
  have HD2 := Go.Lib.hid hd2
  have HC2 := Go.Lib.hid hb2
  clear C1 hd2 hb2
  go_wp2_with fail
  refine C2.out.mono ?_
  rintro e w3 ⟨p, rfl, G, hd3, hs3, hg3, ho3, hT3, -⟩
  have hs3 := hs3.mono HC2.out.size
  have hc3 := HC2.out.trans (ho3.belowDV HD2.out (Nat.le_refl _) HC2.out.size)
  have C3 := dfuse_c hd3 (F : Int) (by omega) (by omega)
  rw [fuse4] at C3
  have C3 := Go.Lib.hid C3
  have HD3 := Go.Lib.hid hd3
  have HS3 := Go.Lib.hid hs3
  have HC3 := Go.Lib.hid hc3
  have HG3 := Go.Lib.hid hg3
  clear C2 hd3 hs3 hg3 ho3 hT3 hc3 HD2 HC2
  go_wp2_with fail
  refine C3.out.mono ?_
  rintro e w4 ⟨rfl, hd4, ht4⟩
  have hs4 := HS3.out.two HD3.out ht4
  have hc4 := HC3.out.trans (ht4.belowDV HD3.out HC3.out.size)
  have C4 := Go.Lib.hid (save_any hd4 hs4 HG3.out (HT.out.below (HB1.out.trans (hc4.mono HB1.out.size))) (HT.out.below HB1.out).low (HB.out.keep hc4 hd4 (Nat.le_refl _)) HB40.out)
  have HD4 := Go.Lib.hid hd4
  have HS4 := Go.Lib.hid hs4
  have HC4 := Go.Lib.hid hc4
  clear C3 hd4 hs4 ht4 hc4 HD3 HS3 HC3 HG3
  go_wp2_with fail
  refine C4.out.mono ?_
  rintro e w5 ⟨r, t, f5, S, L5, rfl, hd5, hs5, ht5, ho5, hcr⟩
  have hc5 := HC4.out.trans (ho5.belowSU HD4.out HS4.out (Nat.le_refl _) (Nat.le_refl _) HC4.out.size)
  have C5 := Go.Lib.hid (sturn_q hs5 t ht5)
  have HD5 := Go.Lib.hid hd5
  have HC5 := Go.Lib.hid hc5
  obtain ⟨G', hcr1, hcr2⟩ := hcr l4
  have Hcr := Go.Lib.hid hcr1
  have Hcs := Go.Lib.hid hcr2
  clear C4 hd5 hs5 ht5 ho5 hcr hcr1 hcr2 hc5 HD4 HS4 HC4
  go_wp2_with fail
  refine C5.out.mono ?_
  rintro e w6 ⟨rfl, hb6⟩
  have hc6 := HC5.out.trans (hb6.mono HC5.out.size)
  have C6 := dcrash_c (HD5.out.below hb6) (.slice a4 len4 cap4) l4 (HK.out.below (HB1.out.trans (hc6.mono HB1.out.size)))
  rw [Hcr.out] at C6
  have C6 := Go.Lib.hid C6
  have HC6 := Go.Lib.hid hc6
  clear C5 hb6 hc6 HD5 HC5
  go_wp2_with fail
  refine C6.out.mono ?_
  rintro e w7 ⟨d7, g7, rfl, hd7, hb7⟩
  have hc7 := HC6.out.trans (hb7.mono HC6.out.size)
  have HD7 := Go.Lib.hid hd7
  have HC7 := Go.Lib.hid hc7
  have Hlow := Go.Lib.hid HC6.out.size
  clear C6 hd7 hb7 hc7 HC6
  rcases Hcs.out with ⟨rfl, rfl, hg⟩ | ⟨rfl, rfl, hg⟩ | ⟨rfl, rfl, hg⟩
  · have C8 := sopen_c (at_ := 0) HD7.out (HT.out.below (HB1.out.trans (HC7.out.mono HB1.out.size))) (by decide) hg
    rw [show ((0 : Nat) : Int) = 0 from rfl] at C8
    have C8 := Go.Lib.hid C8
    have HG := Go.Lib.hid hg
    clear hg
    go_wp2_with fail
    refine C8.out.mono ?_
    rintro e w8 ⟨q, rfl, hs8, hb8⟩
    have HC8 := Go.Lib.hid (HC7.out.trans (hb8.mono HC7.out.size))
    have HD8 := Go.Lib.hid (HD7.out.below hb8)
    have HQ := Go.Lib.hid hs8
    have HQlow := Go.Lib.hid HC7.out.size
    have HA8 := Go.Lib.hid (HA.out.below HC8.out)
    have HB8 := Go.Lib.hid (HB.out.below HC8.out)
    clear C8 hs8 hb8 HC7 HD7
    go_upto_region 18 with (fail)
    refine wp_region_each (by kernel_rfl) (V18E1 q A B C tA tB tC aa ab ac na nb nc ca cb cc) (V18E1_below q A B C tA tB tC aa ab ac na nb nc ca cb cc) (by decide +kernel) (by decide +kernel) (by rfl) [73, 74, 75, 76, 77, 78, 79, 80, 81, 82, 83, 19] (by rfl) ?_ ?_
    · intro i o ho a w6 hb6 hlen hg
      match i, ho with
      | 0, ho =>
        obtain rfl := Option.some.inj ho
        have h17 := given_old hg 17 (by decide +kernel)
        clear hg
        exact st_yield ho (wanted_none rfl) (.pointer (some ⟨q, 0, none⟩)) w6 (by simp [execOp, Act.eval, h17, go_sem]) ⟨_, rfl, Below.refl _ _, by rintro t' ⟨⟩; rfl⟩
      | 1, ho =>
        obtain rfl := Option.some.inj ho
        obtain ⟨_, h73, rfl⟩ := given_fed hg 73 (by decide +kernel)
        clear hg
        exact st_enter (w1 := w6) ho (wanted_none rfl) 15 #[.pointer (some ⟨q, 0, none⟩)] (by simp [execOp, Act.eval, h73, resolve, go_sem]) ((sturn_q (HQ.out.below hb6) 2 rfl).mono (by rintro e w7 ⟨rfl, hb7⟩; exact ⟨_, rfl, _, rfl, hb7, by rintro t' ⟨⟩; rfl⟩))
      | 2, ho =>
        obtain rfl := Option.some.inj ho
        obtain ⟨_, h74, rfl⟩ := given_fed hg 74 (by decide +kernel)
        clear hg
        exact st_yield ho (wanted_none rfl) (.bool false) w6 (by simp [execOp, Act.eval, h74, go_sem]) ⟨_, rfl, Below.refl _ _, by rintro t' ⟨⟩; rfl⟩
      | 3, ho =>
        obtain rfl := Option.some.inj ho
        obtain ⟨_, h75, rfl⟩ := given_fed hg 75 (by decide +kernel)
        clear hg
        exact st_yield ho (wanted_none rfl) (.bool false) w6 (by simp [execOp, Act.eval, h75, go_sem]) ⟨_, rfl, Below.refl _ _, by rintro t' ⟨⟩; rfl⟩
      | 4, ho =>
        obtain rfl := Option.some.inj ho
        obtain ⟨_, h76, rfl⟩ := given_fed hg 76 (by decide +kernel)
        clear hg
        exact st_skip ho (wanted_not rfl rfl h76 (by decide)) ⟨_, rfl, Below.refl _ _, by rintro t' ⟨⟩; rfl⟩
      | 5, ho =>
        obtain rfl := Option.some.inj ho
        obtain ⟨_, h76, rfl⟩ := given_fed hg 76 (by decide +kernel)
        clear hg
        exact st_skip ho (wanted_not rfl rfl h76 (by decide)) ⟨_, rfl, Below.refl _ _, by rintro t' ⟨⟩; rfl⟩
      | 6, ho =>
        obtain rfl := Option.some.inj ho
        obtain ⟨_, h76, rfl⟩ := given_fed hg 76 (by decide +kernel)
        clear hg
        exact st_skip ho (wanted_not rfl rfl h76 (by decide)) ⟨_, rfl, Below.refl _ _, by rintro t' ⟨⟩; rfl⟩
      | 7, ho =>
        obtain rfl := Option.some.inj ho
        obtain ⟨_, h76, rfl⟩ := given_fed hg 76 (by decide +kernel)
        clear hg
        exact st_skip ho (wanted_not rfl rfl h76 (by decide)) ⟨_, rfl, Below.refl _ _, by rintro t' ⟨⟩; rfl⟩
      | 8, ho =>
        obtain rfl := Option.some.inj ho
        obtain ⟨_, h76, rfl⟩ := given_fed hg 76 (by decide +kernel)
        clear hg
        exact st_skip ho (wanted_not rfl rfl h76 (by decide)) ⟨_, rfl, Below.refl _ _, by rintro t' ⟨⟩; rfl⟩
      | 9, ho =>
        obtain rfl := Option.some.inj ho
        obtain ⟨_, h76, rfl⟩ := given_fed hg 76 (by decide +kernel)
        clear hg
        exact st_skip ho (wanted_not rfl rfl h76 (by decide)) ⟨_, rfl, Below.refl _ _, by rintro t' ⟨⟩; rfl⟩
      | 10, ho =>
        obtain rfl := Option.some.inj ho
        obtain ⟨_, h76, rfl⟩ := given_fed hg 76 (by decide +kernel)
        obtain ⟨_, h82, rfl⟩ := given_fed hg 82 (by decide +kernel)
        clear hg
        exact st_yield ho (wanted_none rfl) (.bool false) w6 (by simp [execOp, Act.eval, h76, h82, go_sem]) ⟨_, rfl, Below.refl _ _, by rintro t' ⟨⟩; rfl⟩
      | 11, ho =>
        obtain rfl := Option.some.inj ho
        obtain ⟨_, h83, rfl⟩ := given_fed hg 83 (by decide +kernel)
        clear hg
        exact st_yield ho (wanted_none rfl) (.bool false) w6 (by simp [execOp, Act.eval, h83, go_sem]) ⟨_, rfl, Below.refl _ _, by rintro t' ⟨⟩; rfl⟩
      | n + 12, ho => simp at ho
    · intro f9 w9 hb9 hv
      have h19 := hv 19 (by decide)
      simp only [V18E1] at h19
      have HC9 := Go.Lib.hid (HC8.out.trans (hb9.mono HC8.out.size))
      have HD9 := Go.Lib.hid (HD8.out.below hb9)
      have HQ9 := Go.Lib.hid (HQ.out.below hb9)
      have HA9 := Go.Lib.hid (HA8.out.below hb9)
      have HB9 := Go.Lib.hid (HB8.out.below hb9)
      clear hv hb9 HC8 HD8 HQ HA8 HB8
      unfold putAll
      simp only [List.foldl]
      simp only [h19]
      go_simp
      go_upto_region 19 with (fail)
      refine wp_region_each (by kernel_rfl) (V19E1 q A B C tA tB tC aa ab ac na nb nc ca cb cc) (V19E1_below q A B C tA tB tC aa ab ac na nb nc ca cb cc) (by decide +kernel) (by decide +kernel) (by rfl) [84, 85, 86, 87, 88, 89, 90, 91, 92, 93, 94, 20] (by rfl) ?_ ?_
      · intro i o ho a w6 hb6 hlen hg
        match i, ho with
        | 0, ho =>
          obtain rfl := Option.some.inj ho
          have h17 := given_old hg 17 (by decide +kernel)
          clear hg
          exact st_yield ho (wanted_none rfl) (.pointer (some ⟨q, 0, none⟩)) w6 (by simp [execOp, Act.eval, h17, go_sem]) ⟨_, rfl, Below.refl _ _, by rintro t' ⟨⟩; rfl⟩
        | 1, ho =>
          obtain rfl := Option.some.inj ho
          obtain ⟨_, h84, rfl⟩ := given_fed hg 84 (by decide +kernel)
          clear hg
          exact st_enter (w1 := w6) ho (wanted_none rfl) 15 #[.pointer (some ⟨q, 0, none⟩)] (by simp [execOp, Act.eval, h84, resolve, go_sem]) ((sturn_q (HQ9.out.below hb6) 2 rfl).mono (by rintro e w7 ⟨rfl, hb7⟩; exact ⟨_, rfl, _, rfl, hb7, by rintro t' ⟨⟩; rfl⟩))
        | 2, ho =>
          obtain rfl := Option.some.inj ho
          obtain ⟨_, h85, rfl⟩ := given_fed hg 85 (by decide +kernel)
          clear hg
          exact st_yield ho (wanted_none rfl) (.bool true) w6 (by simp [execOp, Act.eval, h85, go_sem]) ⟨_, rfl, Below.refl _ _, by rintro t' ⟨⟩; rfl⟩
        | 3, ho =>
          obtain rfl := Option.some.inj ho
          obtain ⟨_, h86, rfl⟩ := given_fed hg 86 (by decide +kernel)
          clear hg
          exact st_yield ho (wanted_none rfl) (.bool true) w6 (by simp [execOp, Act.eval, h86, go_sem]) ⟨_, rfl, Below.refl _ _, by rintro t' ⟨⟩; rfl⟩
        | 4, ho =>
          obtain rfl := Option.some.inj ho
          have h17 := given_old hg 17 (by decide +kernel)
          obtain ⟨_, h87, rfl⟩ := given_fed hg 87 (by decide +kernel)
          clear hg
          exact st_yield ho (wanted_some rfl rfl h87 rfl) (.pointer (some ⟨q, 0, none⟩)) w6 (by simp [execOp, Act.eval, h17, go_sem]) ⟨_, rfl, Below.refl _ _, by rintro t' ⟨⟩; rfl⟩
        | 5, ho =>
          obtain rfl := Option.some.inj ho
          obtain ⟨_, h88, rfl⟩ := given_fed hg 88 (by decide +kernel)
          obtain ⟨_, h87, rfl⟩ := given_fed hg 87 (by decide +kernel)
          clear hg
          exact st_enter (w1 := w6) ho (wanted_some rfl rfl h87 rfl) 14 #[.pointer (some ⟨q, 0, none⟩)] (by simp [execOp, Act.eval, h88, resolve, go_sem]) ((stext_q (HQ9.out.below hb6) B rfl).mono (by rintro e w7 ⟨u, rfl, hu, hb7⟩; exact ⟨_, rfl, _, rfl, hb7, by rintro t' ⟨⟩; exact hu⟩))
        | 6, ho =>
          obtain rfl := Option.some.inj ho
          obtain ⟨v89, h89, p89⟩ := given_fed hg 89 (by decide +kernel)
          obtain ⟨_, h87, rfl⟩ := given_fed hg 87 (by decide +kernel)
          clear hg
          have cv := run_string_RB w6 30 5 9 Tryd.underlying30 Tryd.underlying5 Tryd.underlying9 v89 B p89
          rw [HtB.out] at cv
          exact st_yield ho (wanted_some rfl rfl h87 rfl) (.string tB) w6 (by simp [execOp, Act.eval, h89, go_sem, cv]) ⟨_, rfl, Below.refl _ _, by rintro t' ⟨⟩; rfl⟩
        | 7, ho =>
          obtain rfl := Option.some.inj ho
          have h1 := given_old hg 1 (by decide +kernel)
          obtain ⟨_, h87, rfl⟩ := given_fed hg 87 (by decide +kernel)
          clear hg
          exact st_yield ho (wanted_some rfl rfl h87 rfl) (.slice ab nb cb) w6 (by simp [execOp, Act.eval, h1, go_sem]) ⟨_, rfl, Below.refl _ _, by rintro t' ⟨⟩; rfl⟩
        | 8, ho =>
          obtain rfl := Option.some.inj ho
          obtain ⟨_, h91, rfl⟩ := given_fed hg 91 (by decide +kernel)
          obtain ⟨_, h87, rfl⟩ := given_fed hg 87 (by decide +kernel)
          clear hg
          have cv := run_string_RB w6 30 5 9 Tryd.underlying30 Tryd.underlying5 Tryd.underlying9 (.slice ab nb cb) B (HB9.out.below hb6)
          rw [HtB.out] at cv
          exact st_yield ho (wanted_some rfl rfl h87 rfl) (.string tB) w6 (by simp [execOp, Act.eval, h91, go_sem, cv]) ⟨_, rfl, Below.refl _ _, by rintro t' ⟨⟩; rfl⟩
        | 9, ho =>
          obtain rfl := Option.some.inj ho
          obtain ⟨_, h90, rfl⟩ := given_fed hg 90 (by decide +kernel)
          obtain ⟨_, h92, rfl⟩ := given_fed hg 92 (by decide +kernel)
          obtain ⟨_, h87, rfl⟩ := given_fed hg 87 (by decide +kernel)
          clear hg
          exact st_yield ho (wanted_some rfl rfl h87 rfl) (.bool true) w6 (by simp [execOp, Act.eval, h90, h92, go_sem]) ⟨_, rfl, Below.refl _ _, by rintro t' ⟨⟩; rfl⟩
        | 10, ho =>
          obtain rfl := Option.some.inj ho
          obtain ⟨_, h87, rfl⟩ := given_fed hg 87 (by decide +kernel)
          obtain ⟨_, h93, rfl⟩ := given_fed hg 93 (by decide +kernel)
          clear hg
          exact st_yield ho (wanted_none rfl) (.bool true) w6 (by simp [execOp, Act.eval, h87, h93, go_sem]) ⟨_, rfl, Below.refl _ _, by rintro t' ⟨⟩; rfl⟩
        | 11, ho =>
          obtain rfl := Option.some.inj ho
          obtain ⟨_, h94, rfl⟩ := given_fed hg 94 (by decide +kernel)
          clear hg
          exact st_yield ho (wanted_none rfl) (.bool true) w6 (by simp [execOp, Act.eval, h94, go_sem]) ⟨_, rfl, Below.refl _ _, by rintro t' ⟨⟩; rfl⟩
        | n + 12, ho => simp at ho
      · intro f10 w10 hb10 hv
        have h20 := hv 20 (by decide)
        simp only [V19E1] at h20
        have HCa := Go.Lib.hid (HC9.out.trans (hb10.mono HC9.out.size))
        have HDa := Go.Lib.hid (HD9.out.below hb10)
        have HQa := Go.Lib.hid (HQ9.out.below hb10)
        clear hv hb10 HC9 HD9 HQ9 HA9 HB9
        unfold putAll
        simp only [List.foldl]
        simp only [h20]
        go_simp
        have Cb := Go.Lib.hid (sturn_q HQa.out 2 rfl)
        go_wp2_with fail
        refine Cb.out.mono ?_
        rintro e w11 ⟨rfl, hb11⟩
        have hcb := HCa.out.trans (hb11.mono HCa.out.size)
        have hdb := HDa.out.below hb11
        have hqb := HQa.out.below hb11
        have Cc := Go.Lib.hid (ssave_c hdb (by decide) hqb HG.out (HT.out.below (HB1.out.trans (hcb.mono HB1.out.size))) (by decide) (HC.out.keep hcb hdb Hlow.out) HC40.out (show 2 ≤ 1000 by decide) (Nat.lt_of_lt_of_le (HT.out.below HB1.out).low Hlow.out))
        have HCb := Go.Lib.hid hcb
        have HDb := Go.Lib.hid hdb
        have HQb := Go.Lib.hid hqb
        clear Cb hcb hdb hqb hb11 HCa HDa HQa
        go_wp2_with fail
        refine Cc.out.mono ?_
        rintro e w12 ⟨rfl, G12, hd12, hs12, hg12, ho12, hT12, -⟩
        have hcc := HCb.out.trans (ho12.belowSU HDb.out HQb.out Hlow.out HQlow.out HCb.out.size)
        have Cd := Go.Lib.hid (scrash_c hd12 (.slice none 0 0) [] (rv_none _))
        have HCc := Go.Lib.hid hcc
        have HG12 := Go.Lib.hid hg12
        clear Cc hd12 hs12 hg12 ho12 hT12 hcc HCb HDb HQb
        go_wp2_with fail
        refine Cd.out.mono ?_
        rintro e w13 ⟨d13, g13, rfl, hd13, hb13⟩
        have hcd := HCc.out.trans (hb13.mono HCc.out.size)
        have Ce := sopen_c (at_ := 0) hd13 (HT.out.below (HB1.out.trans (hcd.mono HB1.out.size))) (by decide) HG12.out
        rw [show ((0 : Nat) : Int) = 0 from rfl] at Ce
        have Ce := Go.Lib.hid Ce
        have HCd := Go.Lib.hid hcd
        clear Cd hd13 hb13 hcd HCc
        go_wp2_with fail
        refine Ce.out.mono ?_
        rintro e w14 ⟨u, rfl, hs14, hb14⟩
        have HCe := Go.Lib.hid (HCd.out.trans (hb14.mono HCd.out.size))
        have HU := Go.Lib.hid hs14
        have HC14 := Go.Lib.hid (HC.out.below HCe.out)
        clear Ce hs14 hb14 HCd
        go_upto_region 26 with (fail)
        refine wp_region_each (by kernel_rfl) (V26E1 u A B C tA tB tC aa ab ac na nb nc ca cb cc) (V26E1_below u A B C tA tB tC aa ab ac na nb nc ca cb cc) (by decide +kernel) (by decide +kernel) (by rfl) [121, 122, 123, 124, 125, 126, 127, 128, 129, 130, 131, 132, 133, 134, 135, 136, 137, 10] (by rfl) ?_ ?_
        · intro i o ho a w6 hb6 hlen hg
          match i, ho with
          | 0, ho =>
            obtain rfl := Option.some.inj ho
            have h23 := given_old hg 23 (by decide +kernel)
            clear hg
            exact st_yield ho (wanted_none rfl) (.int .i64 0) w6 (by simp [execOp, Act.eval, h23, go_sem]) ⟨_, rfl, Below.refl _ _, by rintro t' ⟨⟩; rfl⟩
          | 1, ho =>
            obtain rfl := Option.some.inj ho
            obtain ⟨_, h121, rfl⟩ := given_fed hg 121 (by decide +kernel)
            clear hg
            exact st_yield ho (wanted_none rfl) (.bool true) w6 (by simp [execOp, Act.eval, h121, go_sem]) ⟨_, rfl, Below.refl _ _, by rintro t' ⟨⟩; rfl⟩
          | 2, ho =>
            obtain rfl := Option.some.inj ho
            obtain ⟨_, h122, rfl⟩ := given_fed hg 122 (by decide +kernel)
            clear hg
            exact st_yield ho (wanted_none rfl) (.bool true) w6 (by simp [execOp, Act.eval, h122, go_sem]) ⟨_, rfl, Below.refl _ _, by rintro t' ⟨⟩; rfl⟩
          | 3, ho =>
            obtain rfl := Option.some.inj ho
            have h22 := given_old hg 22 (by decide +kernel)
            obtain ⟨_, h123, rfl⟩ := given_fed hg 123 (by decide +kernel)
            clear hg
            exact st_yield ho (wanted_some rfl rfl h123 rfl) (.pointer (some ⟨u, 0, none⟩)) w6 (by simp [execOp, Act.eval, h22, go_sem]) ⟨_, rfl, Below.refl _ _, by rintro t' ⟨⟩; rfl⟩
          | 4, ho =>
            obtain rfl := Option.some.inj ho
            obtain ⟨_, h124, rfl⟩ := given_fed hg 124 (by decide +kernel)
            obtain ⟨_, h123, rfl⟩ := given_fed hg 123 (by decide +kernel)
            clear hg
            exact st_enter (w1 := w6) ho (wanted_some rfl rfl h123 rfl) 15 #[.pointer (some ⟨u, 0, none⟩)] (by simp [execOp, Act.eval, h124, resolve, go_sem]) ((sturn_q (HU.out.below hb6) 3 rfl).mono (by rintro e w7 ⟨rfl, hb7⟩; exact ⟨_, rfl, _, rfl, hb7, by rintro t' ⟨⟩; rfl⟩))
          | 5, ho =>
            obtain rfl := Option.some.inj ho
            have h21 := given_old hg 21 (by decide +kernel)
            obtain ⟨_, h123, rfl⟩ := given_fed hg 123 (by decide +kernel)
            clear hg
            exact st_yield ho (wanted_some rfl rfl h123 rfl) (.int .i64 2) w6 (by simp [execOp, Act.eval, h21, go_sem]) ⟨_, rfl, Below.refl _ _, by rintro t' ⟨⟩; rfl⟩
          | 6, ho =>
            obtain rfl := Option.some.inj ho
            obtain ⟨_, h126, rfl⟩ := given_fed hg 126 (by decide +kernel)
            obtain ⟨_, h123, rfl⟩ := given_fed hg 123 (by decide +kernel)
            clear hg
            exact st_yield ho (wanted_some rfl rfl h123 rfl) (.int .i64 3) w6 (by simp [execOp, Act.eval, h126, go_sem, show IntKind.i64.wrap 3 = 3 from by decide]) ⟨_, rfl, Below.refl _ _, by rintro t' ⟨⟩; rfl⟩
          | 7, ho =>
            obtain rfl := Option.some.inj ho
            obtain ⟨_, h125, rfl⟩ := given_fed hg 125 (by decide +kernel)
            obtain ⟨_, h127, rfl⟩ := given_fed hg 127 (by decide +kernel)
            obtain ⟨_, h123, rfl⟩ := given_fed hg 123 (by decide +kernel)
            clear hg
            exact st_yield ho (wanted_some rfl rfl h123 rfl) (.bool true) w6 (by simp [execOp, Act.eval, h125, h127, go_sem]) ⟨_, rfl, Below.refl _ _, by rintro t' ⟨⟩; rfl⟩
          | 8, ho =>
            obtain rfl := Option.some.inj ho
            obtain ⟨_, h123, rfl⟩ := given_fed hg 123 (by decide +kernel)
            obtain ⟨_, h128, rfl⟩ := given_fed hg 128 (by decide +kernel)
            clear hg
            exact st_yield ho (wanted_none rfl) (.bool true) w6 (by simp [execOp, Act.eval, h123, h128, go_sem]) ⟨_, rfl, Below.refl _ _, by rintro t' ⟨⟩; rfl⟩
          | 9, ho =>
            obtain rfl := Option.some.inj ho
            obtain ⟨_, h129, rfl⟩ := given_fed hg 129 (by decide +kernel)
            clear hg
            exact st_yield ho (wanted_none rfl) (.bool true) w6 (by simp [execOp, Act.eval, h129, go_sem]) ⟨_, rfl, Below.refl _ _, by rintro t' ⟨⟩; rfl⟩
          | 10, ho =>
            obtain rfl := Option.some.inj ho
            have h22 := given_old hg 22 (by decide +kernel)
            obtain ⟨_, h130, rfl⟩ := given_fed hg 130 (by decide +kernel)
            clear hg
            exact st_yield ho (wanted_some rfl rfl h130 rfl) (.pointer (some ⟨u, 0, none⟩)) w6 (by simp [execOp, Act.eval, h22, go_sem]) ⟨_, rfl, Below.refl _ _, by rintro t' ⟨⟩; rfl⟩
          | 11, ho =>
            obtain rfl := Option.some.inj ho
            obtain ⟨_, h131, rfl⟩ := given_fed hg 131 (by decide +kernel)
            obtain ⟨_, h130, rfl⟩ := given_fed hg 130 (by decide +kernel)
            clear hg
            exact st_enter (w1 := w6) ho (wanted_some rfl rfl h130 rfl) 14 #[.pointer (some ⟨u, 0, none⟩)] (by simp [execOp, Act.eval, h131, resolve, go_sem]) ((stext_q (HU.out.below hb6) C rfl).mono (by rintro e w7 ⟨u, rfl, hu, hb7⟩; exact ⟨_, rfl, _, rfl, hb7, by rintro t' ⟨⟩; exact hu⟩))
          | 12, ho =>
            obtain rfl := Option.some.inj ho
            obtain ⟨v132, h132, p132⟩ := given_fed hg 132 (by decide +kernel)
            obtain ⟨_, h130, rfl⟩ := given_fed hg 130 (by decide +kernel)
            clear hg
            have cv := run_string_RB w6 30 5 9 Tryd.underlying30 Tryd.underlying5 Tryd.underlying9 v132 C p132
            rw [HtC.out] at cv
            exact st_yield ho (wanted_some rfl rfl h130 rfl) (.string tC) w6 (by simp [execOp, Act.eval, h132, go_sem, cv]) ⟨_, rfl, Below.refl _ _, by rintro t' ⟨⟩; rfl⟩
          | 13, ho =>
            obtain rfl := Option.some.inj ho
            have h2 := given_old hg 2 (by decide +kernel)
            obtain ⟨_, h130, rfl⟩ := given_fed hg 130 (by decide +kernel)
            clear hg
            exact st_yield ho (wanted_some rfl rfl h130 rfl) (.slice ac nc cc) w6 (by simp [execOp, Act.eval, h2, go_sem]) ⟨_, rfl, Below.refl _ _, by rintro t' ⟨⟩; rfl⟩
          | 14, ho =>
            obtain rfl := Option.some.inj ho
            obtain ⟨_, h134, rfl⟩ := given_fed hg 134 (by decide +kernel)
            obtain ⟨_, h130, rfl⟩ := given_fed hg 130 (by decide +kernel)
            clear hg
            have cv := run_string_RB w6 30 5 9 Tryd.underlying30 Tryd.underlying5 Tryd.underlying9 (.slice ac nc cc) C (HC14.out.below hb6)
            rw [HtC.out] at cv
            exact st_yield ho (wanted_some rfl rfl h130 rfl) (.string tC) w6 (by simp [execOp, Act.eval, h134, go_sem, cv]) ⟨_, rfl, Below.refl _ _, by rintro t' ⟨⟩; rfl⟩
          | 15, ho =>
            obtain rfl := Option.some.inj ho
            obtain ⟨_, h133, rfl⟩ := given_fed hg 133 (by decide +kernel)
            obtain ⟨_, h135, rfl⟩ := given_fed hg 135 (by decide +kernel)
            obtain ⟨_, h130, rfl⟩ := given_fed hg 130 (by decide +kernel)
            clear hg
            exact st_yield ho (wanted_some rfl rfl h130 rfl) (.bool true) w6 (by simp [execOp, Act.eval, h133, h135, go_sem]) ⟨_, rfl, Below.refl _ _, by rintro t' ⟨⟩; rfl⟩
          | 16, ho =>
            obtain rfl := Option.some.inj ho
            obtain ⟨_, h130, rfl⟩ := given_fed hg 130 (by decide +kernel)
            obtain ⟨_, h136, rfl⟩ := given_fed hg 136 (by decide +kernel)
            clear hg
            exact st_yield ho (wanted_none rfl) (.bool true) w6 (by simp [execOp, Act.eval, h130, h136, go_sem]) ⟨_, rfl, Below.refl _ _, by rintro t' ⟨⟩; rfl⟩
          | 17, ho =>
            obtain rfl := Option.some.inj ho
            obtain ⟨_, h137, rfl⟩ := given_fed hg 137 (by decide +kernel)
            clear hg
            exact st_yield ho (wanted_none rfl) (.bool true) w6 (by simp [execOp, Act.eval, h137, go_sem]) ⟨_, rfl, Below.refl _ _, by rintro t' ⟨⟩; rfl⟩
          | n + 18, ho => simp at ho
        · intro f15 w15 hb15 hv
          have h10 := hv 10 (by decide)
          simp only [V26E1] at h10
          have HCf := Go.Lib.hid (HB1.out.trans ((HCe.out.trans (hb15.mono HCe.out.size)).mono HB1.out.size))
          clear hv hb15
          unfold putAll
          simp only [List.foldl]
          simp only [h10]
          go_simp
          go_wp2_with fail
          go_ret
          exact ⟨rfl, HCf.out⟩
  · have C8 := sopen_c (at_ := 0) HD7.out (HT.out.below (HB1.out.trans (HC7.out.mono HB1.out.size))) (by decide) hg
    rw [show ((0 : Nat) : Int) = 0 from rfl] at C8
    have C8 := Go.Lib.hid C8
    have HG := Go.Lib.hid hg
    clear hg
    go_wp2_with fail
    refine C8.out.mono ?_
    rintro e w8 ⟨q, rfl, hs8, hb8⟩
    have HC8 := Go.Lib.hid (HC7.out.trans (hb8.mono HC7.out.size))
    have HD8 := Go.Lib.hid (HD7.out.below hb8)
    have HQ := Go.Lib.hid hs8
    have HQlow := Go.Lib.hid HC7.out.size
    have HA8 := Go.Lib.hid (HA.out.below HC8.out)
    have HB8 := Go.Lib.hid (HB.out.below HC8.out)
    clear C8 hs8 hb8 HC7 HD7
    go_upto_region 18 with (fail)
    refine wp_region_each (by kernel_rfl) (V18E2 q A B C tA tB tC aa ab ac na nb nc ca cb cc) (V18E2_below q A B C tA tB tC aa ab ac na nb nc ca cb cc) (by decide +kernel) (by decide +kernel) (by rfl) [73, 74, 75, 76, 77, 78, 79, 80, 81, 82, 83, 19] (by rfl) ?_ ?_
    · intro i o ho a w6 hb6 hlen hg
      match i, ho with
      | 0, ho =>
        obtain rfl := Option.some.inj ho
        have h17 := given_old hg 17 (by decide +kernel)
        clear hg
        exact st_yield ho (wanted_none rfl) (.pointer (some ⟨q, 0, none⟩)) w6 (by simp [execOp, Act.eval, h17, go_sem]) ⟨_, rfl, Below.refl _ _, by rintro t' ⟨⟩; rfl⟩
      | 1, ho =>
        obtain rfl := Option.some.inj ho
        obtain ⟨_, h73, rfl⟩ := given_fed hg 73 (by decide +kernel)
        clear hg
        exact st_enter (w1 := w6) ho (wanted_none rfl) 15 #[.pointer (some ⟨q, 0, none⟩)] (by simp [execOp, Act.eval, h73, resolve, go_sem]) ((sturn_q (HQ.out.below hb6) 1 rfl).mono (by rintro e w7 ⟨rfl, hb7⟩; exact ⟨_, rfl, _, rfl, hb7, by rintro t' ⟨⟩; rfl⟩))
      | 2, ho =>
        obtain rfl := Option.some.inj ho
        obtain ⟨_, h74, rfl⟩ := given_fed hg 74 (by decide +kernel)
        clear hg
        exact st_yield ho (wanted_none rfl) (.bool true) w6 (by simp [execOp, Act.eval, h74, go_sem]) ⟨_, rfl, Below.refl _ _, by rintro t' ⟨⟩; rfl⟩
      | 3, ho =>
        obtain rfl := Option.some.inj ho
        obtain ⟨_, h75, rfl⟩ := given_fed hg 75 (by decide +kernel)
        clear hg
        exact st_yield ho (wanted_none rfl) (.bool true) w6 (by simp [execOp, Act.eval, h75, go_sem]) ⟨_, rfl, Below.refl _ _, by rintro t' ⟨⟩; rfl⟩
      | 4, ho =>
        obtain rfl := Option.some.inj ho
        have h17 := given_old hg 17 (by decide +kernel)
        obtain ⟨_, h76, rfl⟩ := given_fed hg 76 (by decide +kernel)
        clear hg
        exact st_yield ho (wanted_some rfl rfl h76 rfl) (.pointer (some ⟨q, 0, none⟩)) w6 (by simp [execOp, Act.eval, h17, go_sem]) ⟨_, rfl, Below.refl _ _, by rintro t' ⟨⟩; rfl⟩
      | 5, ho =>
        obtain rfl := Option.some.inj ho
        obtain ⟨_, h77, rfl⟩ := given_fed hg 77 (by decide +kernel)
        obtain ⟨_, h76, rfl⟩ := given_fed hg 76 (by decide +kernel)
        clear hg
        exact st_enter (w1 := w6) ho (wanted_some rfl rfl h76 rfl) 14 #[.pointer (some ⟨q, 0, none⟩)] (by simp [execOp, Act.eval, h77, resolve, go_sem]) ((stext_q (HQ.out.below hb6) A rfl).mono (by rintro e w7 ⟨u, rfl, hu, hb7⟩; exact ⟨_, rfl, _, rfl, hb7, by rintro t' ⟨⟩; exact hu⟩))
      | 6, ho =>
        obtain rfl := Option.some.inj ho
        obtain ⟨v78, h78, p78⟩ := given_fed hg 78 (by decide +kernel)
        obtain ⟨_, h76, rfl⟩ := given_fed hg 76 (by decide +kernel)
        clear hg
        have cv := run_string_RB w6 30 5 9 Tryd.underlying30 Tryd.underlying5 Tryd.underlying9 v78 A p78
        rw [HtA.out] at cv
        exact st_yield ho (wanted_some rfl rfl h76 rfl) (.string tA) w6 (by simp [execOp, Act.eval, h78, go_sem, cv]) ⟨_, rfl, Below.refl _ _, by rintro t' ⟨⟩; rfl⟩
      | 7, ho =>
        obtain rfl := Option.some.inj ho
        have h0 := given_old hg 0 (by decide +kernel)
        obtain ⟨_, h76, rfl⟩ := given_fed hg 76 (by decide +kernel)
        clear hg
        exact st_yield ho (wanted_some rfl rfl h76 rfl) (.slice aa na ca) w6 (by simp [execOp, Act.eval, h0, go_sem]) ⟨_, rfl, Below.refl _ _, by rintro t' ⟨⟩; rfl⟩
      | 8, ho =>
        obtain rfl := Option.some.inj ho
        obtain ⟨_, h80, rfl⟩ := given_fed hg 80 (by decide +kernel)
        obtain ⟨_, h76, rfl⟩ := given_fed hg 76 (by decide +kernel)
        clear hg
        have cv := run_string_RB w6 30 5 9 Tryd.underlying30 Tryd.underlying5 Tryd.underlying9 (.slice aa na ca) A (HA8.out.below hb6)
        rw [HtA.out] at cv
        exact st_yield ho (wanted_some rfl rfl h76 rfl) (.string tA) w6 (by simp [execOp, Act.eval, h80, go_sem, cv]) ⟨_, rfl, Below.refl _ _, by rintro t' ⟨⟩; rfl⟩
      | 9, ho =>
        obtain rfl := Option.some.inj ho
        obtain ⟨_, h79, rfl⟩ := given_fed hg 79 (by decide +kernel)
        obtain ⟨_, h81, rfl⟩ := given_fed hg 81 (by decide +kernel)
        obtain ⟨_, h76, rfl⟩ := given_fed hg 76 (by decide +kernel)
        clear hg
        exact st_yield ho (wanted_some rfl rfl h76 rfl) (.bool true) w6 (by simp [execOp, Act.eval, h79, h81, go_sem]) ⟨_, rfl, Below.refl _ _, by rintro t' ⟨⟩; rfl⟩
      | 10, ho =>
        obtain rfl := Option.some.inj ho
        obtain ⟨_, h76, rfl⟩ := given_fed hg 76 (by decide +kernel)
        obtain ⟨_, h82, rfl⟩ := given_fed hg 82 (by decide +kernel)
        clear hg
        exact st_yield ho (wanted_none rfl) (.bool true) w6 (by simp [execOp, Act.eval, h76, h82, go_sem]) ⟨_, rfl, Below.refl _ _, by rintro t' ⟨⟩; rfl⟩
      | 11, ho =>
        obtain rfl := Option.some.inj ho
        obtain ⟨_, h83, rfl⟩ := given_fed hg 83 (by decide +kernel)
        clear hg
        exact st_yield ho (wanted_none rfl) (.bool true) w6 (by simp [execOp, Act.eval, h83, go_sem]) ⟨_, rfl, Below.refl _ _, by rintro t' ⟨⟩; rfl⟩
      | n + 12, ho => simp at ho
    · intro f9 w9 hb9 hv
      have h19 := hv 19 (by decide)
      simp only [V18E2] at h19
      have HC9 := Go.Lib.hid (HC8.out.trans (hb9.mono HC8.out.size))
      have HD9 := Go.Lib.hid (HD8.out.below hb9)
      have HQ9 := Go.Lib.hid (HQ.out.below hb9)
      have HA9 := Go.Lib.hid (HA8.out.below hb9)
      have HB9 := Go.Lib.hid (HB8.out.below hb9)
      clear hv hb9 HC8 HD8 HQ HA8 HB8
      unfold putAll
      simp only [List.foldl]
      simp only [h19]
      go_simp
      go_upto_region 19 with (fail)
      refine wp_region_each (by kernel_rfl) (V19E2 q A B C tA tB tC aa ab ac na nb nc ca cb cc) (V19E2_below q A B C tA tB tC aa ab ac na nb nc ca cb cc) (by decide +kernel) (by decide +kernel) (by rfl) [84, 85, 86, 87, 88, 89, 90, 91, 92, 93, 94, 20] (by rfl) ?_ ?_
      · intro i o ho a w6 hb6 hlen hg
        match i, ho with
        | 0, ho =>
          obtain rfl := Option.some.inj ho
          have h17 := given_old hg 17 (by decide +kernel)
          clear hg
          exact st_yield ho (wanted_none rfl) (.pointer (some ⟨q, 0, none⟩)) w6 (by simp [execOp, Act.eval, h17, go_sem]) ⟨_, rfl, Below.refl _ _, by rintro t' ⟨⟩; rfl⟩
        | 1, ho =>
          obtain rfl := Option.some.inj ho
          obtain ⟨_, h84, rfl⟩ := given_fed hg 84 (by decide +kernel)
          clear hg
          exact st_enter (w1 := w6) ho (wanted_none rfl) 15 #[.pointer (some ⟨q, 0, none⟩)] (by simp [execOp, Act.eval, h84, resolve, go_sem]) ((sturn_q (HQ9.out.below hb6) 1 rfl).mono (by rintro e w7 ⟨rfl, hb7⟩; exact ⟨_, rfl, _, rfl, hb7, by rintro t' ⟨⟩; rfl⟩))
        | 2, ho =>
          obtain rfl := Option.some.inj ho
          obtain ⟨_, h85, rfl⟩ := given_fed hg 85 (by decide +kernel)
          clear hg
          exact st_yield ho (wanted_none rfl) (.bool false) w6 (by simp [execOp, Act.eval, h85, go_sem]) ⟨_, rfl, Below.refl _ _, by rintro t' ⟨⟩; rfl⟩
        | 3, ho =>
          obtain rfl := Option.some.inj ho
          obtain ⟨_, h86, rfl⟩ := given_fed hg 86 (by decide +kernel)
          clear hg
          exact st_yield ho (wanted_none rfl) (.bool false) w6 (by simp [execOp, Act.eval, h86, go_sem]) ⟨_, rfl, Below.refl _ _, by rintro t' ⟨⟩; rfl⟩
        | 4, ho =>
          obtain rfl := Option.some.inj ho
          obtain ⟨_, h87, rfl⟩ := given_fed hg 87 (by decide +kernel)
          clear hg
          exact st_skip ho (wanted_not rfl rfl h87 (by decide)) ⟨_, rfl, Below.refl _ _, by rintro t' ⟨⟩; rfl⟩
        | 5, ho =>
          obtain rfl := Option.some.inj ho
          obtain ⟨_, h87, rfl⟩ := given_fed hg 87 (by decide +kernel)
          clear hg
          exact st_skip ho (wanted_not rfl rfl h87 (by decide)) ⟨_, rfl, Below.refl _ _, by rintro t' ⟨⟩; rfl⟩
        | 6, ho =>
          obtain rfl := Option.some.inj ho
          obtain ⟨_, h87, rfl⟩ := given_fed hg 87 (by decide +kernel)
          clear hg
          exact st_skip ho (wanted_not rfl rfl h87 (by decide)) ⟨_, rfl, Below.refl _ _, by rintro t' ⟨⟩; rfl⟩
        | 7, ho =>
          obtain rfl := Option.some.inj ho
          obtain ⟨_, h87, rfl⟩ := given_fed hg 87 (by decide +kernel)
          clear hg
          exact st_skip ho (wanted_not rfl rfl h87 (by decide)) ⟨_, rfl, Below.refl _ _, by rintro t' ⟨⟩; rfl⟩
        | 8, ho =>
          obtain rfl := Option.some.inj ho
          obtain ⟨_, h87, rfl⟩ := given_fed hg 87 (by decide +kernel)
          clear hg
          exact st_skip ho (wanted_not rfl rfl h87 (by decide)) ⟨_, rfl, Below.refl _ _, by rintro t' ⟨⟩; rfl⟩
        | 9, ho =>
          obtain rfl := Option.some.inj ho
          obtain ⟨_, h87, rfl⟩ := given_fed hg 87 (by decide +kernel)
          clear hg
          exact st_skip ho (wanted_not rfl rfl h87 (by decide)) ⟨_, rfl, Below.refl _ _, by rintro t' ⟨⟩; rfl⟩
        | 10, ho =>
          obtain rfl := Option.some.inj ho
          obtain ⟨_, h87, rfl⟩ := given_fed hg 87 (by decide +kernel)
          obtain ⟨_, h93, rfl⟩ := given_fed hg 93 (by decide +kernel)
          clear hg
          exact st_yield ho (wanted_none rfl) (.bool false) w6 (by simp [execOp, Act.eval, h87, h93, go_sem]) ⟨_, rfl, Below.refl _ _, by rintro t' ⟨⟩; rfl⟩
        | 11, ho =>
          obtain rfl := Option.some.inj ho
          obtain ⟨_, h94, rfl⟩ := given_fed hg 94 (by decide +kernel)
          clear hg
          exact st_yield ho (wanted_none rfl) (.bool false) w6 (by simp [execOp, Act.eval, h94, go_sem]) ⟨_, rfl, Below.refl _ _, by rintro t' ⟨⟩; rfl⟩
        | n + 12, ho => simp at ho
      · intro f10 w10 hb10 hv
        have h20 := hv 20 (by decide)
        simp only [V19E2] at h20
        have HCa := Go.Lib.hid (HC9.out.trans (hb10.mono HC9.out.size))
        have HDa := Go.Lib.hid (HD9.out.below hb10)
        have HQa := Go.Lib.hid (HQ9.out.below hb10)
        clear hv hb10 HC9 HD9 HQ9 HA9 HB9
        unfold putAll
        simp only [List.foldl]
        simp only [h20]
        go_simp
        have Cb := Go.Lib.hid (sturn_q HQa.out 1 rfl)
        go_wp2_with fail
        refine Cb.out.mono ?_
        rintro e w11 ⟨rfl, hb11⟩
        have hcb := HCa.out.trans (hb11.mono HCa.out.size)
        have hdb := HDa.out.below hb11
        have hqb := HQa.out.below hb11
        have Cc := Go.Lib.hid (ssave_c hdb (by decide) hqb HG.out (HT.out.below (HB1.out.trans (hcb.mono HB1.out.size))) (by decide) (HC.out.keep hcb hdb Hlow.out) HC40.out (show 1 ≤ 1000 by decide) (Nat.lt_of_lt_of_le (HT.out.below HB1.out).low Hlow.out))
        have HCb := Go.Lib.hid hcb
        have HDb := Go.Lib.hid hdb
        have HQb := Go.Lib.hid hqb
        clear Cb hcb hdb hqb hb11 HCa HDa HQa
        go_wp2_with fail
        refine Cc.out.mono ?_
        rintro e w12 ⟨rfl, G12, hd12, hs12, hg12, ho12, hT12, -⟩
        have hcc := HCb.out.trans (ho12.belowSU HDb.out HQb.out Hlow.out HQlow.out HCb.out.size)
        have Cd := Go.Lib.hid (scrash_c hd12 (.slice none 0 0) [] (rv_none _))
        have HCc := Go.Lib.hid hcc
        have HG12 := Go.Lib.hid hg12
        clear Cc hd12 hs12 hg12 ho12 hT12 hcc HCb HDb HQb
        go_wp2_with fail
        refine Cd.out.mono ?_
        rintro e w13 ⟨d13, g13, rfl, hd13, hb13⟩
        have hcd := HCc.out.trans (hb13.mono HCc.out.size)
        have Ce := sopen_c (at_ := 0) hd13 (HT.out.below (HB1.out.trans (hcd.mono HB1.out.size))) (by decide) HG12.out
        rw [show ((0 : Nat) : Int) = 0 from rfl] at Ce
        have Ce := Go.Lib.hid Ce
        have HCd := Go.Lib.hid hcd
        clear Cd hd13 hb13 hcd HCc
        go_wp2_with fail
        refine Ce.out.mono ?_
        rintro e w14 ⟨u, rfl, hs14, hb14⟩
        have HCe := Go.Lib.hid (HCd.out.trans (hb14.mono HCd.out.size))
        have HU := Go.Lib.hid hs14
        have HC14 := Go.Lib.hid (HC.out.below HCe.out)
        clear Ce hs14 hb14 HCd
        go_upto_region 26 with (fail)
        refine wp_region_each (by kernel_rfl) (V26E2 u A B C tA tB tC aa ab ac na nb nc ca cb cc) (V26E2_below u A B C tA tB tC aa ab ac na nb nc ca cb cc) (by decide +kernel) (by decide +kernel) (by rfl) [121, 122, 123, 124, 125, 126, 127, 128, 129, 130, 131, 132, 133, 134, 135, 136, 137, 10] (by rfl) ?_ ?_
        · intro i o ho a w6 hb6 hlen hg
          match i, ho with
          | 0, ho =>
            obtain rfl := Option.some.inj ho
            have h23 := given_old hg 23 (by decide +kernel)
            clear hg
            exact st_yield ho (wanted_none rfl) (.int .i64 0) w6 (by simp [execOp, Act.eval, h23, go_sem]) ⟨_, rfl, Below.refl _ _, by rintro t' ⟨⟩; rfl⟩
          | 1, ho =>
            obtain rfl := Option.some.inj ho
            obtain ⟨_, h121, rfl⟩ := given_fed hg 121 (by decide +kernel)
            clear hg
            exact st_yield ho (wanted_none rfl) (.bool true) w6 (by simp [execOp, Act.eval, h121, go_sem]) ⟨_, rfl, Below.refl _ _, by rintro t' ⟨⟩; rfl⟩
          | 2, ho =>
            obtain rfl := Option.some.inj ho
            obtain ⟨_, h122, rfl⟩ := given_fed hg 122 (by decide +kernel)
            clear hg
            exact st_yield ho (wanted_none rfl) (.bool true) w6 (by simp [execOp, Act.eval, h122, go_sem]) ⟨_, rfl, Below.refl _ _, by rintro t' ⟨⟩; rfl⟩
          | 3, ho =>
            obtain rfl := Option.some.inj ho
            have h22 := given_old hg 22 (by decide +kernel)
            obtain ⟨_, h123, rfl⟩ := given_fed hg 123 (by decide +kernel)
            clear hg
            exact st_yield ho (wanted_some rfl rfl h123 rfl) (.pointer (some ⟨u, 0, none⟩)) w6 (by simp [execOp, Act.eval, h22, go_sem]) ⟨_, rfl, Below.refl _ _, by rintro t' ⟨⟩; rfl⟩
          | 4, ho =>
            obtain rfl := Option.some.inj ho
            obtain ⟨_, h124, rfl⟩ := given_fed hg 124 (by decide +kernel)
            obtain ⟨_, h123, rfl⟩ := given_fed hg 123 (by decide +kernel)
            clear hg
            exact st_enter (w1 := w6) ho (wanted_some rfl rfl h123 rfl) 15 #[.pointer (some ⟨u, 0, none⟩)] (by simp [execOp, Act.eval, h124, resolve, go_sem]) ((sturn_q (HU.out.below hb6) 2 rfl).mono (by rintro e w7 ⟨rfl, hb7⟩; exact ⟨_, rfl, _, rfl, hb7, by rintro t' ⟨⟩; rfl⟩))
          | 5, ho =>
            obtain rfl := Option.some.inj ho
            have h21 := given_old hg 21 (by decide +kernel)
            obtain ⟨_, h123, rfl⟩ := given_fed hg 123 (by decide +kernel)
            clear hg
            exact st_yield ho (wanted_some rfl rfl h123 rfl) (.int .i64 1) w6 (by simp [execOp, Act.eval, h21, go_sem]) ⟨_, rfl, Below.refl _ _, by rintro t' ⟨⟩; rfl⟩
          | 6, ho =>
            obtain rfl := Option.some.inj ho
            obtain ⟨_, h126, rfl⟩ := given_fed hg 126 (by decide +kernel)
            obtain ⟨_, h123, rfl⟩ := given_fed hg 123 (by decide +kernel)
            clear hg
            exact st_yield ho (wanted_some rfl rfl h123 rfl) (.int .i64 2) w6 (by simp [execOp, Act.eval, h126, go_sem, show IntKind.i64.wrap 2 = 2 from by decide]) ⟨_, rfl, Below.refl _ _, by rintro t' ⟨⟩; rfl⟩
          | 7, ho =>
            obtain rfl := Option.some.inj ho
            obtain ⟨_, h125, rfl⟩ := given_fed hg 125 (by decide +kernel)
            obtain ⟨_, h127, rfl⟩ := given_fed hg 127 (by decide +kernel)
            obtain ⟨_, h123, rfl⟩ := given_fed hg 123 (by decide +kernel)
            clear hg
            exact st_yield ho (wanted_some rfl rfl h123 rfl) (.bool true) w6 (by simp [execOp, Act.eval, h125, h127, go_sem]) ⟨_, rfl, Below.refl _ _, by rintro t' ⟨⟩; rfl⟩
          | 8, ho =>
            obtain rfl := Option.some.inj ho
            obtain ⟨_, h123, rfl⟩ := given_fed hg 123 (by decide +kernel)
            obtain ⟨_, h128, rfl⟩ := given_fed hg 128 (by decide +kernel)
            clear hg
            exact st_yield ho (wanted_none rfl) (.bool true) w6 (by simp [execOp, Act.eval, h123, h128, go_sem]) ⟨_, rfl, Below.refl _ _, by rintro t' ⟨⟩; rfl⟩
          | 9, ho =>
            obtain rfl := Option.some.inj ho
            obtain ⟨_, h129, rfl⟩ := given_fed hg 129 (by decide +kernel)
            clear hg
            exact st_yield ho (wanted_none rfl) (.bool true) w6 (by simp [execOp, Act.eval, h129, go_sem]) ⟨_, rfl, Below.refl _ _, by rintro t' ⟨⟩; rfl⟩
          | 10, ho =>
            obtain rfl := Option.some.inj ho
            have h22 := given_old hg 22 (by decide +kernel)
            obtain ⟨_, h130, rfl⟩ := given_fed hg 130 (by decide +kernel)
            clear hg
            exact st_yield ho (wanted_some rfl rfl h130 rfl) (.pointer (some ⟨u, 0, none⟩)) w6 (by simp [execOp, Act.eval, h22, go_sem]) ⟨_, rfl, Below.refl _ _, by rintro t' ⟨⟩; rfl⟩
          | 11, ho =>
            obtain rfl := Option.some.inj ho
            obtain ⟨_, h131, rfl⟩ := given_fed hg 131 (by decide +kernel)
            obtain ⟨_, h130, rfl⟩ := given_fed hg 130 (by decide +kernel)
            clear hg
            exact st_enter (w1 := w6) ho (wanted_some rfl rfl h130 rfl) 14 #[.pointer (some ⟨u, 0, none⟩)] (by simp [execOp, Act.eval, h131, resolve, go_sem]) ((stext_q (HU.out.below hb6) C rfl).mono (by rintro e w7 ⟨u, rfl, hu, hb7⟩; exact ⟨_, rfl, _, rfl, hb7, by rintro t' ⟨⟩; exact hu⟩))
          | 12, ho =>
            obtain rfl := Option.some.inj ho
            obtain ⟨v132, h132, p132⟩ := given_fed hg 132 (by decide +kernel)
            obtain ⟨_, h130, rfl⟩ := given_fed hg 130 (by decide +kernel)
            clear hg
            have cv := run_string_RB w6 30 5 9 Tryd.underlying30 Tryd.underlying5 Tryd.underlying9 v132 C p132
            rw [HtC.out] at cv
            exact st_yield ho (wanted_some rfl rfl h130 rfl) (.string tC) w6 (by simp [execOp, Act.eval, h132, go_sem, cv]) ⟨_, rfl, Below.refl _ _, by rintro t' ⟨⟩; rfl⟩
          | 13, ho =>
            obtain rfl := Option.some.inj ho
            have h2 := given_old hg 2 (by decide +kernel)
            obtain ⟨_, h130, rfl⟩ := given_fed hg 130 (by decide +kernel)
            clear hg
            exact st_yield ho (wanted_some rfl rfl h130 rfl) (.slice ac nc cc) w6 (by simp [execOp, Act.eval, h2, go_sem]) ⟨_, rfl, Below.refl _ _, by rintro t' ⟨⟩; rfl⟩
          | 14, ho =>
            obtain rfl := Option.some.inj ho
            obtain ⟨_, h134, rfl⟩ := given_fed hg 134 (by decide +kernel)
            obtain ⟨_, h130, rfl⟩ := given_fed hg 130 (by decide +kernel)
            clear hg
            have cv := run_string_RB w6 30 5 9 Tryd.underlying30 Tryd.underlying5 Tryd.underlying9 (.slice ac nc cc) C (HC14.out.below hb6)
            rw [HtC.out] at cv
            exact st_yield ho (wanted_some rfl rfl h130 rfl) (.string tC) w6 (by simp [execOp, Act.eval, h134, go_sem, cv]) ⟨_, rfl, Below.refl _ _, by rintro t' ⟨⟩; rfl⟩
          | 15, ho =>
            obtain rfl := Option.some.inj ho
            obtain ⟨_, h133, rfl⟩ := given_fed hg 133 (by decide +kernel)
            obtain ⟨_, h135, rfl⟩ := given_fed hg 135 (by decide +kernel)
            obtain ⟨_, h130, rfl⟩ := given_fed hg 130 (by decide +kernel)
            clear hg
            exact st_yield ho (wanted_some rfl rfl h130 rfl) (.bool true) w6 (by simp [execOp, Act.eval, h133, h135, go_sem]) ⟨_, rfl, Below.refl _ _, by rintro t' ⟨⟩; rfl⟩
          | 16, ho =>
            obtain rfl := Option.some.inj ho
            obtain ⟨_, h130, rfl⟩ := given_fed hg 130 (by decide +kernel)
            obtain ⟨_, h136, rfl⟩ := given_fed hg 136 (by decide +kernel)
            clear hg
            exact st_yield ho (wanted_none rfl) (.bool true) w6 (by simp [execOp, Act.eval, h130, h136, go_sem]) ⟨_, rfl, Below.refl _ _, by rintro t' ⟨⟩; rfl⟩
          | 17, ho =>
            obtain rfl := Option.some.inj ho
            obtain ⟨_, h137, rfl⟩ := given_fed hg 137 (by decide +kernel)
            clear hg
            exact st_yield ho (wanted_none rfl) (.bool true) w6 (by simp [execOp, Act.eval, h137, go_sem]) ⟨_, rfl, Below.refl _ _, by rintro t' ⟨⟩; rfl⟩
          | n + 18, ho => simp at ho
        · intro f15 w15 hb15 hv
          have h10 := hv 10 (by decide)
          simp only [V26E2] at h10
          have HCf := Go.Lib.hid (HB1.out.trans ((HCe.out.trans (hb15.mono HCe.out.size)).mono HB1.out.size))
          clear hv hb15
          unfold putAll
          simp only [List.foldl]
          simp only [h10]
          go_simp
          go_wp2_with fail
          go_ret
          exact ⟨rfl, HCf.out⟩
  · have C8 := sopen_c (at_ := 0) HD7.out (HT.out.below (HB1.out.trans (HC7.out.mono HB1.out.size))) (by decide) hg
    rw [show ((0 : Nat) : Int) = 0 from rfl] at C8
    have C8 := Go.Lib.hid C8
    have HG := Go.Lib.hid hg
    clear hg
    go_wp2_with fail
    refine C8.out.mono ?_
    rintro e w8 ⟨q, rfl, hs8, hb8⟩
    have HC8 := Go.Lib.hid (HC7.out.trans (hb8.mono HC7.out.size))
    have HD8 := Go.Lib.hid (HD7.out.below hb8)
    have HQ := Go.Lib.hid hs8
    have HQlow := Go.Lib.hid HC7.out.size
    have HA8 := Go.Lib.hid (HA.out.below HC8.out)
    have HB8 := Go.Lib.hid (HB.out.below HC8.out)
    clear C8 hs8 hb8 HC7 HD7
    go_upto_region 18 with (fail)
    refine wp_region_each (by kernel_rfl) (V18E3 q A B C tA tB tC aa ab ac na nb nc ca cb cc) (V18E3_below q A B C tA tB tC aa ab ac na nb nc ca cb cc) (by decide +kernel) (by decide +kernel) (by rfl) [73, 74, 75, 76, 77, 78, 79, 80, 81, 82, 83, 19] (by rfl) ?_ ?_
    · intro i o ho a w6 hb6 hlen hg
      match i, ho with
      | 0, ho =>
        obtain rfl := Option.some.inj ho
        have h17 := given_old hg 17 (by decide +kernel)
        clear hg
        exact st_yield ho (wanted_none rfl) (.pointer (some ⟨q, 0, none⟩)) w6 (by simp [execOp, Act.eval, h17, go_sem]) ⟨_, rfl, Below.refl _ _, by rintro t' ⟨⟩; rfl⟩
      | 1, ho =>
        obtain rfl := Option.some.inj ho
        obtain ⟨_, h73, rfl⟩ := given_fed hg 73 (by decide +kernel)
        clear hg
        exact st_enter (w1 := w6) ho (wanted_none rfl) 15 #[.pointer (some ⟨q, 0, none⟩)] (by simp [execOp, Act.eval, h73, resolve, go_sem]) ((sturn_q (HQ.out.below hb6) 2 rfl).mono (by rintro e w7 ⟨rfl, hb7⟩; exact ⟨_, rfl, _, rfl, hb7, by rintro t' ⟨⟩; rfl⟩))
      | 2, ho =>
        obtain rfl := Option.some.inj ho
        obtain ⟨_, h74, rfl⟩ := given_fed hg 74 (by decide +kernel)
        clear hg
        exact st_yield ho (wanted_none rfl) (.bool false) w6 (by simp [execOp, Act.eval, h74, go_sem]) ⟨_, rfl, Below.refl _ _, by rintro t' ⟨⟩; rfl⟩
      | 3, ho =>
        obtain rfl := Option.some.inj ho
        obtain ⟨_, h75, rfl⟩ := given_fed hg 75 (by decide +kernel)
        clear hg
        exact st_yield ho (wanted_none rfl) (.bool false) w6 (by simp [execOp, Act.eval, h75, go_sem]) ⟨_, rfl, Below.refl _ _, by rintro t' ⟨⟩; rfl⟩
      | 4, ho =>
        obtain rfl := Option.some.inj ho
        obtain ⟨_, h76, rfl⟩ := given_fed hg 76 (by decide +kernel)
        clear hg
        exact st_skip ho (wanted_not rfl rfl h76 (by decide)) ⟨_, rfl, Below.refl _ _, by rintro t' ⟨⟩; rfl⟩
      | 5, ho =>
        obtain rfl := Option.some.inj ho
        obtain ⟨_, h76, rfl⟩ := given_fed hg 76 (by decide +kernel)
        clear hg
        exact st_skip ho (wanted_not rfl rfl h76 (by decide)) ⟨_, rfl, Below.refl _ _, by rintro t' ⟨⟩; rfl⟩
      | 6, ho =>
        obtain rfl := Option.some.inj ho
        obtain ⟨_, h76, rfl⟩ := given_fed hg 76 (by decide +kernel)
        clear hg
        exact st_skip ho (wanted_not rfl rfl h76 (by decide)) ⟨_, rfl, Below.refl _ _, by rintro t' ⟨⟩; rfl⟩
      | 7, ho =>
        obtain rfl := Option.some.inj ho
        obtain ⟨_, h76, rfl⟩ := given_fed hg 76 (by decide +kernel)
        clear hg
        exact st_skip ho (wanted_not rfl rfl h76 (by decide)) ⟨_, rfl, Below.refl _ _, by rintro t' ⟨⟩; rfl⟩
      | 8, ho =>
        obtain rfl := Option.some.inj ho
        obtain ⟨_, h76, rfl⟩ := given_fed hg 76 (by decide +kernel)
        clear hg
        exact st_skip ho (wanted_not rfl rfl h76 (by decide)) ⟨_, rfl, Below.refl _ _, by rintro t' ⟨⟩; rfl⟩
      | 9, ho =>
        obtain rfl := Option.some.inj ho
        obtain ⟨_, h76, rfl⟩ := given_fed hg 76 (by decide +kernel)
        clear hg
        exact st_skip ho (wanted_not rfl rfl h76 (by decide)) ⟨_, rfl, Below.refl _ _, by rintro t' ⟨⟩; rfl⟩
      | 10, ho =>
        obtain rfl := Option.some.inj ho
        obtain ⟨_, h76, rfl⟩ := given_fed hg 76 (by decide +kernel)
        obtain ⟨_, h82, rfl⟩ := given_fed hg 82 (by decide +kernel)
        clear hg
        exact st_yield ho (wanted_none rfl) (.bool false) w6 (by simp [execOp, Act.eval, h76, h82, go_sem]) ⟨_, rfl, Below.refl _ _, by rintro t' ⟨⟩; rfl⟩
      | 11, ho =>
        obtain rfl := Option.some.inj ho
        obtain ⟨_, h83, rfl⟩ := given_fed hg 83 (by decide +kernel)
        clear hg
        exact st_yield ho (wanted_none rfl) (.bool false) w6 (by simp [execOp, Act.eval, h83, go_sem]) ⟨_, rfl, Below.refl _ _, by rintro t' ⟨⟩; rfl⟩
      | n + 12, ho => simp at ho
    · intro f9 w9 hb9 hv
      have h19 := hv 19 (by decide)
      simp only [V18E3] at h19
      have HC9 := Go.Lib.hid (HC8.out.trans (hb9.mono HC8.out.size))
      have HD9 := Go.Lib.hid (HD8.out.below hb9)
      have HQ9 := Go.Lib.hid (HQ.out.below hb9)
      have HA9 := Go.Lib.hid (HA8.out.below hb9)
      have HB9 := Go.Lib.hid (HB8.out.below hb9)
      clear hv hb9 HC8 HD8 HQ HA8 HB8
      unfold putAll
      simp only [List.foldl]
      simp only [h19]
      go_simp
      go_upto_region 19 with (fail)
      refine wp_region_each (by kernel_rfl) (V19E3 q A B C tA tB tC aa ab ac na nb nc ca cb cc) (V19E3_below q A B C tA tB tC aa ab ac na nb nc ca cb cc) (by decide +kernel) (by decide +kernel) (by rfl) [84, 85, 86, 87, 88, 89, 90, 91, 92, 93, 94, 20] (by rfl) ?_ ?_
      · intro i o ho a w6 hb6 hlen hg
        match i, ho with
        | 0, ho =>
          obtain rfl := Option.some.inj ho
          have h17 := given_old hg 17 (by decide +kernel)
          clear hg
          exact st_yield ho (wanted_none rfl) (.pointer (some ⟨q, 0, none⟩)) w6 (by simp [execOp, Act.eval, h17, go_sem]) ⟨_, rfl, Below.refl _ _, by rintro t' ⟨⟩; rfl⟩
        | 1, ho =>
          obtain rfl := Option.some.inj ho
          obtain ⟨_, h84, rfl⟩ := given_fed hg 84 (by decide +kernel)
          clear hg
          exact st_enter (w1 := w6) ho (wanted_none rfl) 15 #[.pointer (some ⟨q, 0, none⟩)] (by simp [execOp, Act.eval, h84, resolve, go_sem]) ((sturn_q (HQ9.out.below hb6) 2 rfl).mono (by rintro e w7 ⟨rfl, hb7⟩; exact ⟨_, rfl, _, rfl, hb7, by rintro t' ⟨⟩; rfl⟩))
        | 2, ho =>
          obtain rfl := Option.some.inj ho
          obtain ⟨_, h85, rfl⟩ := given_fed hg 85 (by decide +kernel)
          clear hg
          exact st_yield ho (wanted_none rfl) (.bool true) w6 (by simp [execOp, Act.eval, h85, go_sem]) ⟨_, rfl, Below.refl _ _, by rintro t' ⟨⟩; rfl⟩
        | 3, ho =>
          obtain rfl := Option.some.inj ho
          obtain ⟨_, h86, rfl⟩ := given_fed hg 86 (by decide +kernel)
          clear hg
          exact st_yield ho (wanted_none rfl) (.bool true) w6 (by simp [execOp, Act.eval, h86, go_sem]) ⟨_, rfl, Below.refl _ _, by rintro t' ⟨⟩; rfl⟩
        | 4, ho =>
          obtain rfl := Option.some.inj ho
          have h17 := given_old hg 17 (by decide +kernel)
          obtain ⟨_, h87, rfl⟩ := given_fed hg 87 (by decide +kernel)
          clear hg
          exact st_yield ho (wanted_some rfl rfl h87 rfl) (.pointer (some ⟨q, 0, none⟩)) w6 (by simp [execOp, Act.eval, h17, go_sem]) ⟨_, rfl, Below.refl _ _, by rintro t' ⟨⟩; rfl⟩
        | 5, ho =>
          obtain rfl := Option.some.inj ho
          obtain ⟨_, h88, rfl⟩ := given_fed hg 88 (by decide +kernel)
          obtain ⟨_, h87, rfl⟩ := given_fed hg 87 (by decide +kernel)
          clear hg
          exact st_enter (w1 := w6) ho (wanted_some rfl rfl h87 rfl) 14 #[.pointer (some ⟨q, 0, none⟩)] (by simp [execOp, Act.eval, h88, resolve, go_sem]) ((stext_q (HQ9.out.below hb6) B rfl).mono (by rintro e w7 ⟨u, rfl, hu, hb7⟩; exact ⟨_, rfl, _, rfl, hb7, by rintro t' ⟨⟩; exact hu⟩))
        | 6, ho =>
          obtain rfl := Option.some.inj ho
          obtain ⟨v89, h89, p89⟩ := given_fed hg 89 (by decide +kernel)
          obtain ⟨_, h87, rfl⟩ := given_fed hg 87 (by decide +kernel)
          clear hg
          have cv := run_string_RB w6 30 5 9 Tryd.underlying30 Tryd.underlying5 Tryd.underlying9 v89 B p89
          rw [HtB.out] at cv
          exact st_yield ho (wanted_some rfl rfl h87 rfl) (.string tB) w6 (by simp [execOp, Act.eval, h89, go_sem, cv]) ⟨_, rfl, Below.refl _ _, by rintro t' ⟨⟩; rfl⟩
        | 7, ho =>
          obtain rfl := Option.some.inj ho
          have h1 := given_old hg 1 (by decide +kernel)
          obtain ⟨_, h87, rfl⟩ := given_fed hg 87 (by decide +kernel)
          clear hg
          exact st_yield ho (wanted_some rfl rfl h87 rfl) (.slice ab nb cb) w6 (by simp [execOp, Act.eval, h1, go_sem]) ⟨_, rfl, Below.refl _ _, by rintro t' ⟨⟩; rfl⟩
        | 8, ho =>
          obtain rfl := Option.some.inj ho
          obtain ⟨_, h91, rfl⟩ := given_fed hg 91 (by decide +kernel)
          obtain ⟨_, h87, rfl⟩ := given_fed hg 87 (by decide +kernel)
          clear hg
          have cv := run_string_RB w6 30 5 9 Tryd.underlying30 Tryd.underlying5 Tryd.underlying9 (.slice ab nb cb) B (HB9.out.below hb6)
          rw [HtB.out] at cv
          exact st_yield ho (wanted_some rfl rfl h87 rfl) (.string tB) w6 (by simp [execOp, Act.eval, h91, go_sem, cv]) ⟨_, rfl, Below.refl _ _, by rintro t' ⟨⟩; rfl⟩
        | 9, ho =>
          obtain rfl := Option.some.inj ho
          obtain ⟨_, h90, rfl⟩ := given_fed hg 90 (by decide +kernel)
          obtain ⟨_, h92, rfl⟩ := given_fed hg 92 (by decide +kernel)
          obtain ⟨_, h87, rfl⟩ := given_fed hg 87 (by decide +kernel)
          clear hg
          exact st_yield ho (wanted_some rfl rfl h87 rfl) (.bool true) w6 (by simp [execOp, Act.eval, h90, h92, go_sem]) ⟨_, rfl, Below.refl _ _, by rintro t' ⟨⟩; rfl⟩
        | 10, ho =>
          obtain rfl := Option.some.inj ho
          obtain ⟨_, h87, rfl⟩ := given_fed hg 87 (by decide +kernel)
          obtain ⟨_, h93, rfl⟩ := given_fed hg 93 (by decide +kernel)
          clear hg
          exact st_yield ho (wanted_none rfl) (.bool true) w6 (by simp [execOp, Act.eval, h87, h93, go_sem]) ⟨_, rfl, Below.refl _ _, by rintro t' ⟨⟩; rfl⟩
        | 11, ho =>
          obtain rfl := Option.some.inj ho
          obtain ⟨_, h94, rfl⟩ := given_fed hg 94 (by decide +kernel)
          clear hg
          exact st_yield ho (wanted_none rfl) (.bool true) w6 (by simp [execOp, Act.eval, h94, go_sem]) ⟨_, rfl, Below.refl _ _, by rintro t' ⟨⟩; rfl⟩
        | n + 12, ho => simp at ho
      · intro f10 w10 hb10 hv
        have h20 := hv 20 (by decide)
        simp only [V19E3] at h20
        have HCa := Go.Lib.hid (HC9.out.trans (hb10.mono HC9.out.size))
        have HDa := Go.Lib.hid (HD9.out.below hb10)
        have HQa := Go.Lib.hid (HQ9.out.below hb10)
        clear hv hb10 HC9 HD9 HQ9 HA9 HB9
        unfold putAll
        simp only [List.foldl]
        simp only [h20]
        go_simp
        have Cb := Go.Lib.hid (sturn_q HQa.out 2 rfl)
        go_wp2_with fail
        refine Cb.out.mono ?_
        rintro e w11 ⟨rfl, hb11⟩
        have hcb := HCa.out.trans (hb11.mono HCa.out.size)
        have hdb := HDa.out.below hb11
        have hqb := HQa.out.below hb11
        have Cc := Go.Lib.hid (ssave_c hdb (by decide) hqb HG.out (HT.out.below (HB1.out.trans (hcb.mono HB1.out.size))) (by decide) (HC.out.keep hcb hdb Hlow.out) HC40.out (show 2 ≤ 1000 by decide) (Nat.lt_of_lt_of_le (HT.out.below HB1.out).low Hlow.out))
        have HCb := Go.Lib.hid hcb
        have HDb := Go.Lib.hid hdb
        have HQb := Go.Lib.hid hqb
        clear Cb hcb hdb hqb hb11 HCa HDa HQa
        go_wp2_with fail
        refine Cc.out.mono ?_
        rintro e w12 ⟨rfl, G12, hd12, hs12, hg12, ho12, hT12, -⟩
        have hcc := HCb.out.trans (ho12.belowSU HDb.out HQb.out Hlow.out HQlow.out HCb.out.size)
        have Cd := Go.Lib.hid (scrash_c hd12 (.slice none 0 0) [] (rv_none _))
        have HCc := Go.Lib.hid hcc
        have HG12 := Go.Lib.hid hg12
        clear Cc hd12 hs12 hg12 ho12 hT12 hcc HCb HDb HQb
        go_wp2_with fail
        refine Cd.out.mono ?_
        rintro e w13 ⟨d13, g13, rfl, hd13, hb13⟩
        have hcd := HCc.out.trans (hb13.mono HCc.out.size)
        have Ce := sopen_c (at_ := 0) hd13 (HT.out.below (HB1.out.trans (hcd.mono HB1.out.size))) (by decide) HG12.out
        rw [show ((0 : Nat) : Int) = 0 from rfl] at Ce
        have Ce := Go.Lib.hid Ce
        have HCd := Go.Lib.hid hcd
        clear Cd hd13 hb13 hcd HCc
        go_wp2_with fail
        refine Ce.out.mono ?_
        rintro e w14 ⟨u, rfl, hs14, hb14⟩
        have HCe := Go.Lib.hid (HCd.out.trans (hb14.mono HCd.out.size))
        have HU := Go.Lib.hid hs14
        have HC14 := Go.Lib.hid (HC.out.below HCe.out)
        clear Ce hs14 hb14 HCd
        go_upto_region 26 with (fail)
        refine wp_region_each (by kernel_rfl) (V26E3 u A B C tA tB tC aa ab ac na nb nc ca cb cc) (V26E3_below u A B C tA tB tC aa ab ac na nb nc ca cb cc) (by decide +kernel) (by decide +kernel) (by rfl) [121, 122, 123, 124, 125, 126, 127, 128, 129, 130, 131, 132, 133, 134, 135, 136, 137, 10] (by rfl) ?_ ?_
        · intro i o ho a w6 hb6 hlen hg
          match i, ho with
          | 0, ho =>
            obtain rfl := Option.some.inj ho
            have h23 := given_old hg 23 (by decide +kernel)
            clear hg
            exact st_yield ho (wanted_none rfl) (.int .i64 0) w6 (by simp [execOp, Act.eval, h23, go_sem]) ⟨_, rfl, Below.refl _ _, by rintro t' ⟨⟩; rfl⟩
          | 1, ho =>
            obtain rfl := Option.some.inj ho
            obtain ⟨_, h121, rfl⟩ := given_fed hg 121 (by decide +kernel)
            clear hg
            exact st_yield ho (wanted_none rfl) (.bool true) w6 (by simp [execOp, Act.eval, h121, go_sem]) ⟨_, rfl, Below.refl _ _, by rintro t' ⟨⟩; rfl⟩
          | 2, ho =>
            obtain rfl := Option.some.inj ho
            obtain ⟨_, h122, rfl⟩ := given_fed hg 122 (by decide +kernel)
            clear hg
            exact st_yield ho (wanted_none rfl) (.bool true) w6 (by simp [execOp, Act.eval, h122, go_sem]) ⟨_, rfl, Below.refl _ _, by rintro t' ⟨⟩; rfl⟩
          | 3, ho =>
            obtain rfl := Option.some.inj ho
            have h22 := given_old hg 22 (by decide +kernel)
            obtain ⟨_, h123, rfl⟩ := given_fed hg 123 (by decide +kernel)
            clear hg
            exact st_yield ho (wanted_some rfl rfl h123 rfl) (.pointer (some ⟨u, 0, none⟩)) w6 (by simp [execOp, Act.eval, h22, go_sem]) ⟨_, rfl, Below.refl _ _, by rintro t' ⟨⟩; rfl⟩
          | 4, ho =>
            obtain rfl := Option.some.inj ho
            obtain ⟨_, h124, rfl⟩ := given_fed hg 124 (by decide +kernel)
            obtain ⟨_, h123, rfl⟩ := given_fed hg 123 (by decide +kernel)
            clear hg
            exact st_enter (w1 := w6) ho (wanted_some rfl rfl h123 rfl) 15 #[.pointer (some ⟨u, 0, none⟩)] (by simp [execOp, Act.eval, h124, resolve, go_sem]) ((sturn_q (HU.out.below hb6) 3 rfl).mono (by rintro e w7 ⟨rfl, hb7⟩; exact ⟨_, rfl, _, rfl, hb7, by rintro t' ⟨⟩; rfl⟩))
          | 5, ho =>
            obtain rfl := Option.some.inj ho
            have h21 := given_old hg 21 (by decide +kernel)
            obtain ⟨_, h123, rfl⟩ := given_fed hg 123 (by decide +kernel)
            clear hg
            exact st_yield ho (wanted_some rfl rfl h123 rfl) (.int .i64 2) w6 (by simp [execOp, Act.eval, h21, go_sem]) ⟨_, rfl, Below.refl _ _, by rintro t' ⟨⟩; rfl⟩
          | 6, ho =>
            obtain rfl := Option.some.inj ho
            obtain ⟨_, h126, rfl⟩ := given_fed hg 126 (by decide +kernel)
            obtain ⟨_, h123, rfl⟩ := given_fed hg 123 (by decide +kernel)
            clear hg
            exact st_yield ho (wanted_some rfl rfl h123 rfl) (.int .i64 3) w6 (by simp [execOp, Act.eval, h126, go_sem, show IntKind.i64.wrap 3 = 3 from by decide]) ⟨_, rfl, Below.refl _ _, by rintro t' ⟨⟩; rfl⟩
          | 7, ho =>
            obtain rfl := Option.some.inj ho
            obtain ⟨_, h125, rfl⟩ := given_fed hg 125 (by decide +kernel)
            obtain ⟨_, h127, rfl⟩ := given_fed hg 127 (by decide +kernel)
            obtain ⟨_, h123, rfl⟩ := given_fed hg 123 (by decide +kernel)
            clear hg
            exact st_yield ho (wanted_some rfl rfl h123 rfl) (.bool true) w6 (by simp [execOp, Act.eval, h125, h127, go_sem]) ⟨_, rfl, Below.refl _ _, by rintro t' ⟨⟩; rfl⟩
          | 8, ho =>
            obtain rfl := Option.some.inj ho
            obtain ⟨_, h123, rfl⟩ := given_fed hg 123 (by decide +kernel)
            obtain ⟨_, h128, rfl⟩ := given_fed hg 128 (by decide +kernel)
            clear hg
            exact st_yield ho (wanted_none rfl) (.bool true) w6 (by simp [execOp, Act.eval, h123, h128, go_sem]) ⟨_, rfl, Below.refl _ _, by rintro t' ⟨⟩; rfl⟩
          | 9, ho =>
            obtain rfl := Option.some.inj ho
            obtain ⟨_, h129, rfl⟩ := given_fed hg 129 (by decide +kernel)
            clear hg
            exact st_yield ho (wanted_none rfl) (.bool true) w6 (by simp [execOp, Act.eval, h129, go_sem]) ⟨_, rfl, Below.refl _ _, by rintro t' ⟨⟩; rfl⟩
          | 10, ho =>
            obtain rfl := Option.some.inj ho
            have h22 := given_old hg 22 (by decide +kernel)
            obtain ⟨_, h130, rfl⟩ := given_fed hg 130 (by decide +kernel)
            clear hg
            exact st_yield ho (wanted_some rfl rfl h130 rfl) (.pointer (some ⟨u, 0, none⟩)) w6 (by simp [execOp, Act.eval, h22, go_sem]) ⟨_, rfl, Below.refl _ _, by rintro t' ⟨⟩; rfl⟩
          | 11, ho =>
            obtain rfl := Option.some.inj ho
            obtain ⟨_, h131, rfl⟩ := given_fed hg 131 (by decide +kernel)
            obtain ⟨_, h130, rfl⟩ := given_fed hg 130 (by decide +kernel)
            clear hg
            exact st_enter (w1 := w6) ho (wanted_some rfl rfl h130 rfl) 14 #[.pointer (some ⟨u, 0, none⟩)] (by simp [execOp, Act.eval, h131, resolve, go_sem]) ((stext_q (HU.out.below hb6) C rfl).mono (by rintro e w7 ⟨u, rfl, hu, hb7⟩; exact ⟨_, rfl, _, rfl, hb7, by rintro t' ⟨⟩; exact hu⟩))
          | 12, ho =>
            obtain rfl := Option.some.inj ho
            obtain ⟨v132, h132, p132⟩ := given_fed hg 132 (by decide +kernel)
            obtain ⟨_, h130, rfl⟩ := given_fed hg 130 (by decide +kernel)
            clear hg
            have cv := run_string_RB w6 30 5 9 Tryd.underlying30 Tryd.underlying5 Tryd.underlying9 v132 C p132
            rw [HtC.out] at cv
            exact st_yield ho (wanted_some rfl rfl h130 rfl) (.string tC) w6 (by simp [execOp, Act.eval, h132, go_sem, cv]) ⟨_, rfl, Below.refl _ _, by rintro t' ⟨⟩; rfl⟩
          | 13, ho =>
            obtain rfl := Option.some.inj ho
            have h2 := given_old hg 2 (by decide +kernel)
            obtain ⟨_, h130, rfl⟩ := given_fed hg 130 (by decide +kernel)
            clear hg
            exact st_yield ho (wanted_some rfl rfl h130 rfl) (.slice ac nc cc) w6 (by simp [execOp, Act.eval, h2, go_sem]) ⟨_, rfl, Below.refl _ _, by rintro t' ⟨⟩; rfl⟩
          | 14, ho =>
            obtain rfl := Option.some.inj ho
            obtain ⟨_, h134, rfl⟩ := given_fed hg 134 (by decide +kernel)
            obtain ⟨_, h130, rfl⟩ := given_fed hg 130 (by decide +kernel)
            clear hg
            have cv := run_string_RB w6 30 5 9 Tryd.underlying30 Tryd.underlying5 Tryd.underlying9 (.slice ac nc cc) C (HC14.out.below hb6)
            rw [HtC.out] at cv
            exact st_yield ho (wanted_some rfl rfl h130 rfl) (.string tC) w6 (by simp [execOp, Act.eval, h134, go_sem, cv]) ⟨_, rfl, Below.refl _ _, by rintro t' ⟨⟩; rfl⟩
          | 15, ho =>
            obtain rfl := Option.some.inj ho
            obtain ⟨_, h133, rfl⟩ := given_fed hg 133 (by decide +kernel)
            obtain ⟨_, h135, rfl⟩ := given_fed hg 135 (by decide +kernel)
            obtain ⟨_, h130, rfl⟩ := given_fed hg 130 (by decide +kernel)
            clear hg
            exact st_yield ho (wanted_some rfl rfl h130 rfl) (.bool true) w6 (by simp [execOp, Act.eval, h133, h135, go_sem]) ⟨_, rfl, Below.refl _ _, by rintro t' ⟨⟩; rfl⟩
          | 16, ho =>
            obtain rfl := Option.some.inj ho
            obtain ⟨_, h130, rfl⟩ := given_fed hg 130 (by decide +kernel)
            obtain ⟨_, h136, rfl⟩ := given_fed hg 136 (by decide +kernel)
            clear hg
            exact st_yield ho (wanted_none rfl) (.bool true) w6 (by simp [execOp, Act.eval, h130, h136, go_sem]) ⟨_, rfl, Below.refl _ _, by rintro t' ⟨⟩; rfl⟩
          | 17, ho =>
            obtain rfl := Option.some.inj ho
            obtain ⟨_, h137, rfl⟩ := given_fed hg 137 (by decide +kernel)
            clear hg
            exact st_yield ho (wanted_none rfl) (.bool true) w6 (by simp [execOp, Act.eval, h137, go_sem]) ⟨_, rfl, Below.refl _ _, by rintro t' ⟨⟩; rfl⟩
          | n + 18, ho => simp at ho
        · intro f15 w15 hb15 hv
          have h10 := hv 10 (by decide)
          simp only [V26E3] at h10
          have HCf := Go.Lib.hid (HB1.out.trans ((HCe.out.trans (hb15.mono HCe.out.size)).mono HB1.out.size))
          clear hv hb15
          unfold putAll
          simp only [List.foldl]
          simp only [h10]
          go_simp
          go_wp2_with fail
          go_ret
          exact ⟨rfl, HCf.out⟩

/-! ### THE ROW -/
noncomputable def laidWorld (os : Os) : World := World.doorLaid Tryd.prog 400 os
theorem laid_met (os : Os) : laidMetH Tryd.prog Rows.superCrashRow.laid ((laidWorld os).forCall (fun _ _ => 0) ⟨#[], #[.slice none 0 0, .slice none 0 0, .slice none 0 0, .int .i64 0, .slice none 0 0], []⟩).memory :=
  laidMetH_of_parts3 (fuel := 8) (laidMet_of_run' 8 (by kernel_rfl) (by kernel_rfl)) (by kernel_rfl) (by kernel_rfl)
theorem reads (os : Os) {H : Type} (enc : TypeId × Value → H) : ∃ places, DataW.whole enc Tryd.prog ((laidWorld os).forCall (fun _ _ => 0) ⟨#[], #[.slice none 0 0, .slice none 0 0, .slice none 0 0, .int .i64 0, .slice none 0 0], []⟩).memory Tryd.f4.params.toList Rows.superCrashSpec.vars false (Array.toList #[.slice none 0 0, .slice none 0 0, .slice none 0 0, .int .i64 0, .slice none 0 0]) 8 = some ([.nil, .nil, .nil, .lit (.int .i64 0), .nil], [], places) :=
  ⟨[], by kernel_rfl⟩

set_option maxRecDepth 100000 in
theorem lifted (os : Os) (started : os.Started) (H : Type) (enc : TypeId × Value → H) (F : Stop.Interp) :
    ReturnsInHanded {} Tryd.checked os 4 .any ((OpenSpec.ofChange Rows.superCrashSpec).preRow enc Tryd.prog Tryd.f4 Rows.superCrashRow.domain false Rows.superCrashRow.laid) (((OpenSpec.ofChange Rows.superCrashSpec).at F).post enc Tryd.prog Tryd.f4 false true false false) := by
  obtain ⟨places, hx⟩ := reads os enc
  refine returnsInHanded_of_row (C := Tryd.checked) (s := OpenSpec.ofChange Rows.superCrashSpec) own started (by kernel_rfl) Tryd.func4
    (witness_row_at (enc := enc) (C := Tryd.checked) false (laidWorld os) #[.slice none 0 0, .slice none 0 0, .slice none 0 0, .int .i64 0, .slice none 0 0] rfl (by kernel_rfl) (by kernel_rfl) (by kernel_rfl)
      (OpenSpec.preRow_of_cond 8 hx (by kernel_rfl) (fun k hk => by cases hk) (by kernel_rfl) (laid_met os))) ?_
  intro W base args ds gs before hval0 hW _ _ _ hL _ _
  have hval : ∀ (j : Nat) t v, Tryd.f4.params[j]? = some t → args[j]? = some v → Value.okWide Tryd.prog W .any base t v := hval0
  have hW' := hW
  obtain ⟨p, q, hA0, hV, rfl, hfz, hnd⟩ := hW
  have hA : DataW.TrodAll enc Tryd.prog W 0 (fun _ => true) true Tryd.f4.params.toList args.toList ds p := hA0
  rw [Tryd.params4] at hA hval
  obtain ⟨v0, vs0, d0, ds0, p0, q0, hargs, rfl, rfl, h0, r0⟩ := trodAll_cons hA
  obtain ⟨v1, vs1, d1, ds1, p1, q1, rfl, rfl, rfl, h1, r1⟩ := trodAll_cons r0
  obtain ⟨v2, vs2, d2, ds2, p2, q2, rfl, rfl, rfl, h2, r2⟩ := trodAll_cons r1
  obtain ⟨v3, vs3, d3, ds3, p3, q3, rfl, rfl, rfl, h3, r3⟩ := trodAll_cons r2
  obtain ⟨v4, vs4, d4, ds4, p4, q4, rfl, rfl, rfl, h4, r4⟩ := trodAll_cons r3
  obtain ⟨rfl, rfl, rfl⟩ := trodAll_nil r4
  obtain rfl : args = #[v0, v1, v2, v3, v4] := by cases args; simp_all
  obtain ⟨rfl, rfl⟩ := trodVars_none hV
  have kk0 := h0
  have lt0 : ∀ x ∈ p0, x.block < W.heap.size := by obtain ⟨m, hm⟩ := kk0; exact DataW.trod_lt m _ _ _ hm
  have kk1 := h1
  have lt1 : ∀ x ∈ p1, x.block < W.heap.size := by obtain ⟨m, hm⟩ := kk1; exact DataW.trod_lt m _ _ _ hm
  have kk2 := h2
  have lt2 : ∀ x ∈ p2, x.block < W.heap.size := by obtain ⟨m, hm⟩ := kk2; exact DataW.trod_lt m _ _ _ hm
  have kk3 := h3
  have lt3 : ∀ x ∈ p3, x.block < W.heap.size := by obtain ⟨m, hm⟩ := kk3; exact DataW.trod_lt m _ _ _ hm
  have kk4 := h4
  have lt4 : ∀ x ∈ p4, x.block < W.heap.size := by obtain ⟨m, hm⟩ := kk4; exact DataW.trod_lt m _ _ _ hm
  obtain ⟨a0, len0, cap0, rfl⟩ := okWide_slice Tryd.underlying30 (hval 0 30 v0 rfl rfl)
  obtain ⟨z0, w0⟩ : ∃ zs, IsRow .u8 W a0 len0 cap0 zs := by
    obtain ⟨fuel, hf⟩ := h0
    rcases open_ints Tryd.underlying30 Tryd.underlying5 (by kernel_rfl) hf with ⟨hcs, _⟩ | ⟨x, l, c, zs, hcs, _, hl, hm, hz, _, hcell, hwz⟩
    · simp [Value.cells] at hcs
      obtain ⟨rfl, rfl, rfl⟩ := hcs
      exact ⟨[], .inl ⟨rfl, rfl, rfl, rfl⟩⟩
    · simp [Value.cells] at hcs
      obtain ⟨rfl, rfl, rfl⟩ := hcs
      exact ⟨zs, .inr ⟨_, rfl, hl, hm, by simpa using hz, hcell, hwz⟩⟩
  obtain ⟨a1, len1, cap1, rfl⟩ := okWide_slice Tryd.underlying30 (hval 1 30 v1 rfl rfl)
  obtain ⟨z1, w1⟩ : ∃ zs, IsRow .u8 W a1 len1 cap1 zs := by
    obtain ⟨fuel, hf⟩ := h1
    rcases open_ints Tryd.underlying30 Tryd.underlying5 (by kernel_rfl) hf with ⟨hcs, _⟩ | ⟨x, l, c, zs, hcs, _, hl, hm, hz, _, hcell, hwz⟩
    · simp [Value.cells] at hcs
      obtain ⟨rfl, rfl, rfl⟩ := hcs
      exact ⟨[], .inl ⟨rfl, rfl, rfl, rfl⟩⟩
    · simp [Value.cells] at hcs
      obtain ⟨rfl, rfl, rfl⟩ := hcs
      exact ⟨zs, .inr ⟨_, rfl, hl, hm, by simpa using hz, hcell, hwz⟩⟩
  obtain ⟨a2, len2, cap2, rfl⟩ := okWide_slice Tryd.underlying30 (hval 2 30 v2 rfl rfl)
  obtain ⟨z2, w2⟩ : ∃ zs, IsRow .u8 W a2 len2 cap2 zs := by
    obtain ⟨fuel, hf⟩ := h2
    rcases open_ints Tryd.underlying30 Tryd.underlying5 (by kernel_rfl) hf with ⟨hcs, _⟩ | ⟨x, l, c, zs, hcs, _, hl, hm, hz, _, hcell, hwz⟩
    · simp [Value.cells] at hcs
      obtain ⟨rfl, rfl, rfl⟩ := hcs
      exact ⟨[], .inl ⟨rfl, rfl, rfl, rfl⟩⟩
    · simp [Value.cells] at hcs
      obtain ⟨rfl, rfl, rfl⟩ := hcs
      exact ⟨zs, .inr ⟨_, rfl, hl, hm, by simpa using hz, hcell, hwz⟩⟩
  obtain ⟨a3, rfl, rfl, rfl, w3⟩ := open_int Tryd.underlying3 (hval 3 3 v3 rfl rfl) h3
  obtain ⟨a4, len4, cap4, rfl⟩ := okWide_slice Tryd.underlying40 (hval 4 40 v4 rfl rfl)
  obtain ⟨l4, w4⟩ := open_zb Tryd.underlying40 Tryd.underlying4 (by kernel_rfl) h4
  clear hA0 hval0
  refine (walk W hL a0 len0 cap0 z0 w0 a1 len1 cap1 z1 w1 a2 len2 cap2 z2 w2 a3 w3 a4 len4 cap4 l4 w4).mono fun e W' ⟨he, bel⟩ => ?_
  subst he
  exact ⟨_, rfl, _, _, _, [], _, [], hW', trodAll_mk1 (shut_bool Tryd.underlying4 _), (trodAll_cons_mk (Below.trod laidOut (by kernel_rfl) (of_decide_eq_true (by kernel_rfl)) kk0 bel lt0) (trodAll_cons_mk (Below.trod laidOut (by kernel_rfl) (of_decide_eq_true (by kernel_rfl)) kk1 bel lt1) (trodAll_cons_mk (Below.trod laidOut (by kernel_rfl) (of_decide_eq_true (by kernel_rfl)) kk2 bel lt2) (trodAll_cons_mk (Below.trod laidOut (by kernel_rfl) (of_decide_eq_true (by kernel_rfl)) kk3 bel lt3) (trodAll_cons_mk (Below.trod laidOut (by kernel_rfl) (of_decide_eq_true (by kernel_rfl)) kk4 bel lt4) trodAll_mk0))))), rfl, bel.frame _, fun h => by cases h⟩

theorem said : Rows.SuperCrashSaid :=
  OpenClaim.holds_of_cond 4 Tryd.f4 rfl rfl rfl rfl rfl rfl rfl ⟨rfl, rfl, rfl, rfl, rfl⟩ rfl rfl rfl rfl rfl (by kernel_rfl) Tryd.func4 (by kernel_rfl)
    (of_decide_eq_true (by kernel_rfl)) (by unfold Func.isWrapper; first | (rw [if_pos (by decide +kernel)]; kernel_rfl) | (rw [if_neg (by decide +kernel)]; exact ⟨rfl, rfl⟩))
    (fun os started H enc _ F => by rw [OpenClaim.pre_eq_preRow]; exact lifted os started H enc F)

/-- No parameter wants a stand-in; the program's own looks are off: what the card asks. -/
theorem plain (f : FuncId) (fn : Func) (hf : Tryd.pinned.checked.prog.funcNamed "loess/loesslaw12.SuperCrash" = some f) (hfn : Tryd.pinned.checked.prog.funcs[f]? = some fn) :
    false = Tryd.pinned.checked.prog.looks [] ∧ ∀ (j : Nat) t, fn.params[j]? = some t → Tryd.pinned.checked.prog.wantsStandIn t = false := by
  obtain rfl : f = 4 := Option.some.inj ((show Tryd.prog.funcNamed "loess/loesslaw12.SuperCrash" = some 4 by kernel_rfl).symm.trans hf) |>.symm
  obtain rfl : fn = Tryd.f4 := (Option.some.inj (Tryd.func4.symm.trans hfn)).symm
  refine ⟨by kernel_rfl, fun j t ht => ?_⟩
  rw [Tryd.params4] at ht
  have hm : t ∈ [30, 30, 30, 3, 40] := by simpa using Array.mem_of_getElem? ht
  have hall : ([30, 30, 30, 3, 40].all fun u => !Tryd.prog.wantsStandIn u) = true := by kernel_rfl
  exact (show Tryd.prog.wantsStandIn t = false by simpa using List.all_eq_true.1 hall t hm)

/-- THE CARD. -/
theorem proved : Rows.SuperCrashCardSaid :=
  Claim7.holds_tied_plain_at .later [] _ _ _ _ said (fun _ h => by cases h) (by kernel_rfl) (fun _ h => by cases h) superCrash_row_tie rfl ⟨rfl, rfl⟩ (by kernel_rfl) rfl plain (by kernel_rfl)
end Go.Proofs.YtiejjiccncmeiaaDoor.superCrash
