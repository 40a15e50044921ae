/-
  The contracts of super's putNum and getNum.
-/
import Derived.Test.YtiejjiccncmeiaaDoorSupM
import Derived.Laws.BitsAllLaws
import Derived.Deep.DeepMust
namespace Go.Proofs.YtiejjiccncmeiaaDoor
open Go.RowKit

theorem shrS (x y : Nat) (h : y ≤ 64) : Op.shift .shr .u64 (x : Int) .i64 (y : Int) = pure (.int .u64 ((x / 2 ^ y : Nat) : Int)) := by
  rw [shift_shr _ _ _ _ (by omega) (by show (y : Int) ≤ 64; omega), Int.toNat_natCast]
  simp
theorem shlS (x y : Nat) (h : y ≤ 64) : Op.shift .shl .u64 (x : Int) .i64 (y : Int) = pure (.int .u64 (IntKind.u64.wrap ((x * 2 ^ y : Nat) : Int))) := by
  rw [shift_shl _ _ _ _ (by omega) (by show (y : Int) ≤ 64; omega), Int.toNat_natCast]
  simp

theorem below_put {B g : Nat} {a w : World} (h : Below B a w) (hb : B ≤ g) (o : Nat) (v : Value) : Below B a (w.setCell ⟨g, o, none⟩ v) :=
  ⟨h.os, h.tape, h.output, by simpa [World.setCell] using h.size, fun k hk => (Below.heap_setCell _ _ _ _ (by show k ≠ g; omega)).trans (h.block k hk)⟩

set_option maxRecDepth 100000 in
theorem sput_c (n : Nat) (w : World) (B g o k cap N cap0 : Nat) (l : List UInt8) (h : Own 5 w B (.slice (some ⟨g, 0, none⟩) N cap0) l) (hk : o + k ≤ l.length) (hk8 : k ≤ 8) (hB : B ≤ g) :
    Calls Tryd.prog 33 #[.slice (some ⟨g, o, none⟩) k cap, .int .u64 (n : Int)] w fun e w' => e = .returned (.tuple #[]) ∧ Own 5 w' B (.slice (some ⟨g, 0, none⟩) N cap0) (putAt l o (leN k n)) ∧ Below B w w' := by
  have H := Go.Lib.hid h; clear h
  have Hk := Go.Lib.hid hk; clear hk
  go_enter Tryd.func33, Tryd.ntmps33
  go_wp2_with fail
  go_loopw [4, 7] (fun uv iv wr => ∃ i : Nat, i ≤ k ∧ iv = .int .i64 (i : Int) ∧ Own 5 wr B (.slice (some ⟨g, 0, none⟩) N cap0) (putAt l o (leN i n)) ∧ Below B w wr) (fun _ iv _ => k - (intOf iv).toNat)
  case atStart => exact ⟨0, by omega, rfl, by rw [show leN 0 n = [] from by unfold leN; rfl, putAt_nil]; exact H.out, Below.refl _ _⟩
  case round =>
    obtain ⟨i, hik, rfl, hown, hb⟩ := hrel
    have HO := Go.Lib.hid hown
    have HB := Go.Lib.hid hb
    clear hown hb
    by_cases hlt : i < k
    · have hlen : (putAt l o (leN i n)).length = l.length := putAt_length (by rw [leN_length]; have := Hk.out; omega)
      obtain ⟨c0, hc⟩ : ∃ c0 : Int, wr.cell? ⟨g, o + i, none⟩ = some (.int .u8 c0) := ⟨_, HO.out.cell (o + i) (by rw [hlen]; have := Hk.out; omega)⟩
      have hf := HO.out.frozenAt (o + i)
      have hst := HO.out.store (o + i) (UInt8.ofNat (n / 256 ^ i)) ((n : Int) / 2 ^ (8 * i) % 256) (by rw [UInt8.toNat_ofNat', show (256 : Nat) ^ i = 2 ^ (8 * i) from by rw [Nat.pow_mul]]; simp)
      have e1 : (putAt l o (leN i n)).set (o + i) (UInt8.ofNat (n / 256 ^ i)) = putAt l o (leN (i + 1) n) := by
        have := putAt_set l (leN i n) o (UInt8.ofNat (n / 256 ^ i)) (by rw [leN_length]; have := Hk.out; omega)
        rw [leN_length] at this
        rw [this, leN_snoc]
      rw [e1] at hst
      have HS := Go.Lib.hid hst
      have hbs := below_put HB.out hB (o + i) (.int .u8 ((n : Int) / 2 ^ (8 * i) % 256))
      have HBS := Go.Lib.hid hbs
      clear hst e1 hlen hbs
      go_wp2_with fail
      go_roundw
      case rel => exact ⟨i + 1, by omega, by go_num, HS.out, HBS.out⟩
      case measure => simp [intOf]; omega
    · obtain rfl : i = k := by omega
      go_wp2_with fail
      go_end0
      exact ⟨rfl, HO.out, HB.out⟩

/-- A number told: the lowest byte first. -/
theorem sget_c (v : Value) (l : List UInt8) (w : World) (hv : RB w v l) (hl : l.length ≤ 8) : Calls Tryd.prog 31 #[v] w fun e w' => e = .returned (.int .u64 (getN l : Int)) ∧ w = w' := by
  obtain ⟨a, cap, rfl, h1, h2, h3, h4⟩ := hv
  have H4 := Go.Lib.hid h4; clear h4 h3 h2 h1
  go_enter Tryd.func31, Tryd.ntmps31
  go_wp2_with fail
  go_loop [3, 4, 5, 8] (fun rv uv cv iv => ∃ k : Nat, k ≤ l.length ∧ iv = .int .i64 (k : Int) ∧ rv = .int .u64 (getN (l.take k) : Int)) (fun _ _ _ iv => l.length - (intOf iv).toNat)
  case atStart => exact ⟨0, by omega, rfl, by simp [getN]⟩
  case round =>
    obtain ⟨k, hk, rfl, rfl⟩ := hrel
    by_cases hlt : k < l.length
    · obtain ⟨b, o, rfl, hc⟩ := H4.out (by intro e; subst e; simp at hlt)
      have hck := hc k hlt
      clear hc
      have hor := getN_or (l.take k) l[k]
      rw [List.length_take, Nat.min_eq_left (by omega), ← List.take_succ_eq_append_getElem hlt] at hor
      have hlt1 := getN_lt (l.take (k + 1))
      have hp : 256 ^ (l.take (k + 1)).length ≤ 256 ^ 8 := Nat.pow_le_pow_right (by omega) (by rw [List.length_take]; omega)
      have hA : getN (l.take (k + 1)) < 18446744073709551616 := Nat.lt_of_lt_of_le hlt1 hp
      have hcle : l[k].toNat * 2 ^ (8 * k) ≤ getN (l.take (k + 1)) := by rw [← hor]; exact Nat.right_le_or
      have h0le : getN (l.take k) ≤ getN (l.take (k + 1)) := by rw [← hor]; exact Nat.left_le_or
      have hw : IntKind.u64.wrap ((l[k].toNat : Int) * 2 ^ (8 * k)) = ((l[k].toNat * 2 ^ (8 * k) : Nat) : Int) := by
        have e : (l[k].toNat : Int) * 2 ^ (8 * k) = ((l[k].toNat * 2 ^ (8 * k) : Nat) : Int) := by simp
        rw [e, IntKind.wrap_u64]
        omega
      have ho : bits .or .u64 (getN (l.take k) : Int) (IntKind.u64.wrap ((l[k].toNat : Int) * 2 ^ (8 * k))) = (getN (l.take (k + 1)) : Int) := by
        rw [hw, u64_or_nat _ _ (by omega) (by omega), hor]
      clear hw hor hcle h0le hA hp hlt1
      have hc8 : (l[k].toNat : Int) < 256 := by have := UInt8.toNat_lt l[k]; omega
      generalize l[k].toNat = c at *
      generalize getN (l.take k) = A at *
      generalize hA1 : getN (l.take (k + 1)) = A1 at *
      have HA1 := Go.Lib.hid hA1
      clear hA1
      go_wp2_with fail
      go_round
      case rel => exact ⟨k + 1, by omega, by go_num, by rw [HA1.out]⟩
      case measure => simp [intOf]; omega
    · obtain rfl : k = l.length := by omega
      go_wp2_with fail
      go_ret
      exact ⟨rfl, rfl⟩

end Go.Proofs.YtiejjiccncmeiaaDoor
