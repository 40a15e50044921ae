/-
  Package value: contracts of Of, Num, Text, MustNum.
-/
import Derived.Test.YtpelcnehndlinaaValP
import Derived.Test.YtpelcnehndlinaaMust
import Derived.Test.YtpelcnehndlinaaValid
import Derived.Test.YtpelcnehndlinaaClone
namespace Go.Proofs.Ytpelcnehndlinaa
open Go.RowKit

/-- What a value holds. -/
inductive VI where
  | none
  | num (n : Int)
  | text (s : ByteArray)
def VI.v : VI → Value
  | .none => .nilIface
  | .num n => .iface 56 (.int .i64 n)
  | .text s => .iface 57 (.string s)
def VI.val (x : VI) : Value := .agg #[x.v]
def VI.k : VI → Int
  | .none => 0
  | .num _ => 1
  | .text _ => 2
def VI.n : VI → Int
  | .num n => n
  | _ => 0
def VI.s : VI → ByteArray
  | .text s => s
  | _ => ⟨#[]⟩
def VI.isN : VI → Bool
  | .num _ => true
  | _ => false
def VI.isT : VI → Bool
  | .text _ => true
  | _ => false
def ofR (k n : Int) (s : ByteArray) : VI := if mayR k n s then (if k = 1 then .num n else .text s) else .none

theorem as_nn (v : Value) (W : World) : (Instr.typeAssert (.iface 56 v) 20 56 true).run Try.prog W = .ok (.tuple #[v, .bool true]) W := by kernel_rfl
theorem as_nt (v : Value) (W : World) : (Instr.typeAssert (.iface 57 v) 20 56 true).run Try.prog W = .ok (.tuple #[.int .i64 0, .bool false]) W := by kernel_rfl
theorem as_n0 (W : World) : (Instr.typeAssert .nilIface 20 56 true).run Try.prog W = .ok (.tuple #[.int .i64 0, .bool false]) W := by kernel_rfl
theorem as_tt (v : Value) (W : World) : (Instr.typeAssert (.iface 57 v) 20 57 true).run Try.prog W = .ok (.tuple #[v, .bool true]) W := by kernel_rfl
theorem as_tn (v : Value) (W : World) : (Instr.typeAssert (.iface 56 v) 20 57 true).run Try.prog W = .ok (.tuple #[.string ⟨#[]⟩, .bool false]) W := by kernel_rfl
theorem as_t0 (W : World) : (Instr.typeAssert .nilIface 20 57 true).run Try.prog W = .ok (.tuple #[.string ⟨#[]⟩, .bool false]) W := by kernel_rfl
theorem mu_n (v : Value) (W : World) : (Instr.typeAssert (.iface 56 v) 20 56 false).run Try.prog W = .ok v W := by kernel_rfl
theorem mu_t (v : Value) (W : World) : ∃ u pv o, (Instr.typeAssert (.iface 57 v) 20 56 false).run Try.prog W = .halt (.panic (.iface u pv)) (W.alloc o) :=
  ⟨Try.prog.rt.typeAssertionError, .pointer (some ⟨W.heap.size, 0, none⟩), .cells (Value.agg #[typeHandle Try.prog 20, typeHandle Try.prog 57, typeHandle Try.prog 56, strVal ""]).cells 81, by kernel_rfl⟩
theorem mu_0 (W : World) : ∃ u pv o, (Instr.typeAssert .nilIface 20 56 false).run Try.prog W = .halt (.panic (.iface u pv)) (W.alloc o) :=
  ⟨Try.prog.rt.typeAssertionError, .pointer (some ⟨W.heap.size, 0, none⟩), .cells (Value.agg #[typeHandle Try.prog 20, .pointer none, typeHandle Try.prog 56, strVal ""]).cells 81, by kernel_rfl⟩

set_option maxRecDepth 100000 in
theorem num_c (x : VI) (w : World) : Calls Try.prog 18 #[x.val] w fun e w' => e = .returned (.tuple #[.int .i64 x.n, .bool x.isN]) ∧ Below w.heap.size w w' := by
  have h1 := as_nn
  have h2 := as_nt
  have h3 := as_n0
  cases x <;>
  · simp only [VI.val, VI.v, VI.n, VI.isN]
    go_enter Try.func18, Try.ntmps18
    go_wp2_with fail
    go_ret2
    exact ⟨rfl, below_one _ _⟩

set_option maxRecDepth 100000 in
theorem text_c (x : VI) (w : World) (hs : x.s.size ≤ 1000) : Calls Try.prog 19 #[x.val] w fun e w' => e = .returned (.tuple #[.string x.s, .bool x.isT]) ∧ Below w.heap.size w w' := by
  have h1 := as_tt
  have h2 := as_tn
  have h3 := as_t0
  have C := Go.Lib.hid fun W => clone_c x.s W (by omega)
  cases x <;>
  · simp only [VI.val, VI.v, VI.s, VI.isT] at C ⊢
    clear hs
    go_enter Try.func19, Try.ntmps19
    go_wp2_with fail
    refine (C.out _).mono ?_
    rintro e w1 ⟨rfl, hb1⟩
    have hbb := (below_one w _).trans (hb1.mono (below_one w _).size)
    clear hb1
    go_wp2_with fail
    go_ret2
    exact ⟨rfl, hbb⟩

set_option maxRecDepth 100000 in
theorem mustNum_n (n : Int) (w : World) : Calls Try.prog 29 #[(VI.num n).val] w fun e w' => e = .returned (.int .i64 n) ∧ Below w.heap.size w w' := by
  have h1 := mu_n
  simp only [VI.val, VI.v]
  go_enter Try.func29, Try.ntmps29
  go_wp2_with fail
  go_ret
  exact ⟨rfl, below_one _ _⟩

set_option maxRecDepth 100000 in
theorem mustNum_t (x : VI) (hx : x.isN = false) (w : World) : Calls Try.prog 29 #[x.val] w fun e w' => (∃ u pv, e = .panicked [{ v := .iface u pv, recovered := false }]) ∧ Below w.heap.size w w' := by
  cases x with
  | num n => cases hx
  | none =>
    obtain ⟨u, pv, o, h⟩ := mu_0 (w.alloc (.cells #[.nilIface] 27))
    simp only [VI.val, VI.v]
    go_enter Try.func29, Try.ntmps29
    go_wp2_with fail
    exact ⟨rfl, ⟨u, pv, rfl⟩, (below_one w _).alloc (below_one w _).size _⟩
  | text s =>
    obtain ⟨u, pv, o, h⟩ := mu_t (.string s) (w.alloc (.cells #[.iface 57 (.string s)] 27))
    simp only [VI.val, VI.v]
    go_enter Try.func29, Try.ntmps29
    go_wp2_with fail
    exact ⟨rfl, ⟨u, pv, rfl⟩, (below_one w _).alloc (below_one w _).size _⟩

/-- The laws' must. -/
theorem must_c (x : VI) (w : World) : Calls Try.prog 14 #[x.val] w fun e w' => e = .returned (.tuple #[.int .i64 x.n, .bool x.isN]) ∧ Below w.heap.size w w' := by
  cases x with
  | num n => exact must_some _ n w fun W => mustNum_n n W
  | none => exact must_none _ w fun W => mustNum_t .none rfl W
  | text s => exact must_none _ w fun W => mustNum_t (.text s) rfl W

set_option maxRecDepth 100000 in
theorem textMay_c (s : ByteArray) (w : World) : Calls Try.prog 30 #[.string s] w fun e w' => e = .returned (.bool (decide (s.size ≤ 24) && wellB (toks (bl s)))) ∧ Below w.heap.size w w' := by
  by_cases h : s.size ≤ 24
  · have C := Go.Lib.hid fun W => valid_c s W (by omega)
    go_enter Try.func30, Try.ntmps30
    go_wp2_with fail
    refine (C.out _).mono ?_
    rintro e w1 ⟨rfl, hb1⟩
    go_wp2_with fail
    go_ret
    exact ⟨ret_of (congrArg Value.bool (by simp [h])), hb1⟩
  · go_enter Try.func30, Try.ntmps30
    go_wp2_with fail
    go_ret
    exact ⟨ret_of (congrArg Value.bool (by simp)), Below.refl _ _⟩

end Go.Proofs.Ytpelcnehndlinaa
