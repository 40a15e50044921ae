/-
  Contracts of Get and GetText, the program's and the reference's.
  Contracts of GetText, the program's and the reference's, and of the law's own numbers.
  Contract of the reference's Get.
-/
import Derived.Test.YtkddleonmkhaiaaGreatM05
import Derived.Lib.VarintBits
namespace Go.Proofs.YtkddleonmkhaiaaGreat
open Go.RowKit
open Go.Lib (uvarint zigzag)

/-- What Get answers, as values. -/
def gv (r : Int × Nat × Int) : Value := .tuple #[.int .i64 r.1, .int .i64 (r.2.1 : Int), .int .i64 r.2.2]

theorem getS_step (l : List UInt8) (k u : Nat) (h : k < l.length) : getS (l.drop k) k u =
    if k = 9 ∧ 1 < l[k].toNat then (0, 0, 1)
    else if 128 ≤ l[k].toNat then getS (l.drop (k + 1)) (k + 1) (u + l[k].toNat % 128 * 128 ^ k)
    else if l[k].toNat = 0 ∧ 0 < k then (0, 0, 1)
    else (unzig (u + l[k].toNat * 128 ^ k), k + 1, 0) := by
  rw [List.drop_eq_getElem_cons h, getS]

set_option maxRecDepth 100000 in
theorem gather (acc c k : Nat) (hk : k ≤ 9) (hc : c < 256) (hacc : acc < 128 ^ k) (hck : k = 9 → c % 128 ≤ 1) :
    bits BinOp.or IntKind.u64 (acc : Int) (IntKind.u64.wrap (IntKind.u64.wrap (bits BinOp.and IntKind.u8 (c : Int) 127) * 2 ^ (7 * k))) = ((acc + c % 128 * 128 ^ k : Nat) : Int) ∧ acc + c % 128 * 128 ^ k < 18446744073709551616 := by
  have hp : (2 : Nat) ^ (7 * k) = 128 ^ k := by rw [Nat.pow_mul]
  have hlt : c % 128 * 128 ^ k + 128 ^ k ≤ 18446744073709551616 := by
    clear hp
    by_cases h9 : k = 9
    · have := hck h9
      subst h9
      have h99 : (128 : Nat) ^ 9 = 9223372036854775808 := by decide
      rw [h99]
      clear hacc hck hk
      omega
    · have h8 : 128 ^ k ≤ 128 ^ 8 := Nat.pow_le_pow_right (by omega) (by omega)
      have : c % 128 * 128 ^ k ≤ 127 * 128 ^ k := Nat.mul_le_mul_right _ (by omega)
      omega
  have e1 : IntKind.u64.wrap (bits BinOp.and IntKind.u8 (c : Int) 127) = ((c % 128 : Nat) : Int) := by
    rw [u8_and127 _ (by omega) (by omega), IntKind.wrap_u64]; omega
  have e2 : ((c % 128 : Nat) : Int) * 2 ^ (7 * k) = ((c % 128 * 128 ^ k : Nat) : Int) := by
    rw [← hp]; simp
  have e3 : IntKind.u64.wrap ((c % 128 * 128 ^ k : Nat) : Int) = ((c % 128 * 128 ^ k : Nat) : Int) := by
    rw [IntKind.wrap_u64]
    have hpos : 0 < 128 ^ k := Nat.pow_pos (by omega)
    omega
  have hpos : 0 < 128 ^ k := Nat.pow_pos (by omega)
  rw [e1, e2, e3]
  refine ⟨?_, by omega⟩
  have hmod : ((c % 128 * 128 ^ k : Nat) : Int) % 2 ^ (7 * k) = 0 := by
    have : (c % 128 * 128 ^ k) % 2 ^ (7 * k) = 0 := by rw [hp]; exact Nat.mul_mod_left _ _
    exact_mod_cast this
  have hlow : ((acc : Nat) : Int) < 2 ^ (7 * k) := by
    have : acc < 2 ^ (7 * k) := by rw [hp]; exact hacc
    exact_mod_cast this
  rw [bits_join_low .u64 64 (by decide) wraps_u64 (7 * k) _ _ (by omega) hlow (by omega) (by omega) hmod (by omega)]
  simp

theorem gather_next (acc c k : Nat) (hacc : acc < 128 ^ k) : acc + c % 128 * 128 ^ k < 128 ^ (k + 1) := by
  rw [Nat.pow_succ]
  have : c % 128 * 128 ^ k ≤ 127 * 128 ^ k := Nat.mul_le_mul_right _ (by omega)
  omega

theorem gather2 (acc c k W : Nat) (hW : W = 128 ^ k) (hk : k ≤ 9) (hc : c < 256) (hacc : acc < 128 ^ k) (hck : k = 9 → c % 128 ≤ 1) :
    IntKind.u64.wrap ((acc : Int) + IntKind.u64.wrap ((c : Int) % 128 * (W : Int))) = ((acc + c % 128 * 128 ^ k : Nat) : Int) ∧ acc + c % 128 * 128 ^ k < 18446744073709551616 := by
  have h := (gather acc c k hk hc hacc hck).2
  have e2 : (c : Int) % 128 * (W : Int) = ((c % 128 * 128 ^ k : Nat) : Int) := by
    rw [hW]; simp
  refine ⟨?_, h⟩
  have hpos : 0 < 128 ^ k := Nat.pow_pos (by omega)
  rw [e2]
  generalize c % 128 * 128 ^ k = q at h ⊢
  rw [IntKind.wrap_u64, IntKind.wrap_u64]
  omega

theorem nextW (k W : Nat) (hW : W = 128 ^ k) (hk : k < 9) : IntKind.u64.wrap ((W : Int) * 128) = ((W * 128 : Nat) : Int) ∧ W * 128 < 18446744073709551616 ∧ W * 128 = 128 ^ (k + 1) := by
  have h8 : 128 ^ k ≤ 128 ^ 8 := Nat.pow_le_pow_right (by omega) (by omega)
  rw [← hW] at h8
  have h88 : (128 : Nat) ^ 8 = 72057594037927936 := by decide
  rw [h88] at h8
  refine ⟨?_, by omega, by rw [hW, Nat.pow_succ]⟩
  rw [IntKind.wrap_u64]
  omega

theorem ret_gv {e : Ending} {r s : Int × Nat × Int} (he : e = .returned (gv r)) (h : r = s) : e = .returned (gv s) := by rw [he, h]

end Go.Proofs.YtkddleonmkhaiaaGreat

namespace Go.Proofs.YtkddleonmkhaiaaGreat
open Go.RowKit
open Go.Lib (uvarint zigzag)

/-- What GetText answers, as values. -/
def tv (r : List UInt8 × Nat × Int) : Value := .tuple #[.string (str r.1), .int .i64 (r.2.1 : Int), .int .i64 r.2.2]

theorem ret_tv {e : Ending} {r s : List UInt8 × Nat × Int} (he : e = .returned (tv r)) (h : r = s) : e = .returned (tv s) := by rw [he, h]

end Go.Proofs.YtkddleonmkhaiaaGreat

namespace Go.Proofs.YtkddleonmkhaiaaGreat
open Go.RowKit
open Go.Lib (uvarint zigzag)

end Go.Proofs.YtkddleonmkhaiaaGreat
