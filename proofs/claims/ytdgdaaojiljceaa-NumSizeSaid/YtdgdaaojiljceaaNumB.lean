/-
  Some numbers, as each law asks them first.
-/
import Derived.Test.YtdgdaaojiljceaaNumL
namespace Go.Proofs.Ytdgdaaojiljceaa
open Go.RowKit
open Go.Lib (uvarint zigzag)

theorem RB.two (w : World) (e : TypeId) (c d : UInt8) : RB (w.alloc (.cells #[.int .u8 (c.toNat : Int), .int .u8 (d.toNat : Int)] e)) (.slice (some ⟨w.heap.size, 0, none⟩) 2 2) [c, d] := by
  refine ⟨some ⟨w.heap.size, 0, none⟩, 2, rfl, Nat.le_refl _, by simp [maxLen], (fun h => by cases h), fun _ => ⟨w.heap.size, 0, rfl, fun i hi => ?_⟩⟩
  rw [cell_of_row _ w.heap.size (0 + i) #[.int .u8 (c.toNat : Int), .int .u8 (d.toNat : Int)] e (0, 0) (heap_alloc_new w _)]
  match i, hi with
  | 0, _ => rfl
  | 1, _ => rfl

theorem getB_64 : getB [128, 1] = (64, 2, 0) := by decide
theorem getB_nil : getB [] = (0, 0, 2) := by decide
theorem textB_ab : textB (putT [97, 98]) = ([97, 98], 3, 0) := by
  have := textB_put [97, 98] [] (by decide)
  rw [List.append_nil] at this
  rw [this]
  have e : (putT [97, 98]).length = 3 := by
    unfold putT
    rw [show zigzag (([97, 98] : List UInt8).length : Int) = 4 from by decide, Go.Lib.uvarint_small (by omega)]
    rfl
  rw [e]
theorem put_m1 : uvarint (zigzag (-1)) = [1] := by
  rw [show zigzag (-1) = 1 from by decide, Go.Lib.uvarint_small (by omega)]
  rfl

theorem begun_c (w : World) : Calls Try.prog 9 #[] w fun e w' => e = .returned (.bool true) ∧ Below w.heap.size w w' := by
  go_enter Try.func9, Try.ntmps9
  go_wp2_with fail
  refine (get_c _ [128, 1] _ (RB.two w _ 128 1)).mono ?_
  rintro e w1 ⟨rfl, rfl⟩
  rw [getB_64]; unfold gv
  go_wp2_with fail
  refine (get_c _ [] _ (RB.nil _)).mono ?_
  rintro e w1 ⟨rfl, rfl⟩
  rw [getB_nil]; unfold gv
  go_wp2_with fail
  have hb0 : Below w.heap.size w (w.alloc (.cells #[.int .u8 128, .int .u8 1] 5)) := (Below.refl _ _).alloc (Nat.le_refl _) _
  refine (putText_c _ [] _ _ (RB.nil _) (by decide)).mono ?_
  rintro e w2 ⟨v2, rfl, hown2, hb2⟩
  go_wp2_with fail
  refine (getText_c v2 _ _ hown2.rb).mono ?_
  rintro e w3 ⟨rfl, rfl⟩
  rw [List.nil_append] at hown2 ⊢
  rw [textB_ab, show tv ([97, 98], 3, 0) = .tuple #[.string ⟨#[97, 98]⟩, .int .i64 3, .int .i64 0] from rfl]
  have hb02 := hb0.trans (hb2.mono (by simp))
  clear hb0 hb2 hown2
  go_wp2_with fail
  refine (put_c _ [] (-1) _ (RB.nil _) (by omega) (by omega) (by decide)).mono ?_
  rintro e w4 ⟨v4, rfl, hown4, hb4⟩
  rw [List.nil_append, put_m1] at hown4
  have hrb4 := hown4.rb
  have hb04 := hb02.trans (hb4.mono hb02.size)
  clear hb02 hb4 hown4
  go_wp2_with (with_reducible show wpList _ _ _ (⟨some 28, _, _, _, _, _⟩ :: _) _ _; go_loud (refine wpList_string_RB rfl (.tmp 27) 22 9 rfl 5 Try.underlying22 Try.underlying5 Try.underlying9 v4 _ rfl hrb4 ?_); rw [show str [1] = ⟨#[1]⟩ from rfl])
  go_ret
  exact ⟨rfl, hb04⟩

end Go.Proofs.Ytdgdaaojiljceaa
