/-
  Package dir: contracts of slices.IndexFunc over entries, of Find.
-/
import Derived.Test.YteickihofbkbkaaEntC
import Derived.Shelf.Abstract
namespace Go.Proofs.Yteickihofbkbkaa
open Go.RowKit

set_option maxHeartbeats 1000000 in
set_option maxRecDepth 100000 in
theorem indexfunc_c (g : Nat) (cb : Array Value) (p : EntT → Bool) (v : Value) (l : List EntT) (w : World) (hv : RE w v l) (eg : ∀ args w, (callFunc g args).run Try.prog w = .ok (.enter g args) w)
    (hf : ∀ (nm : ByteArray) (n a s : Int) (W : World), Below w.heap.size w W → Calls Try.prog g (#[.agg #[.string nm, .int .i64 n, .int .i64 a, .int .i64 s]] ++ cb) W fun e w' => e = .returned (.bool (p (nm, n, a, s))) ∧ Below W.heap.size W w') :
    Calls Try.prog 26 #[v, .func (.func g) #[] cb] w fun e w' => e = .returned (.int .i64 (idxE p l)) ∧ Below w.heap.size w w' := by
  obtain ⟨a, cap, rfl, hm⟩ := hv.form
  have HV := Go.Lib.hid hv
  have HF := Go.Lib.hid hf
  clear hf hv
  go_enter Try.func26, Try.ntmps26
  go_wp2_with fail
  go_loopw [8] (fun i wr => ∃ k : Nat, k ≤ l.length ∧ i = .int .i64 (k : Int) ∧ Hid (∀ (j : Nat) (hj : j < l.length), j < k → p l[j] = false) ∧ Below w.heap.size w wr) (fun i _ => l.length - (intOf i).toNat)
  case atStart => exact ⟨0, by omega, rfl, Go.Lib.hid (fun j hj h => by omega), Below.refl _ _⟩
  case round =>
    obtain ⟨k, hk, rfl, hno, hbc⟩ := hrel
    by_cases hlt : k < l.length
    · obtain ⟨b, o, rfl, -, hbs, c0, c1, c2, c3⟩ := (HV.out.below hbc).at k hlt
      have Hyes := Go.Lib.hid (fun (h : p l[k] = true) => idxE_of hlt h hno.out)
      have Hnot := Go.Lib.hid (fun (h : p l[k] = false) => show ∀ (j : Nat) (hj : j < l.length), j < k + 1 → p l[j] = false from fun j hj hj1 => by
        rcases Nat.lt_or_ge j k with h2 | h2
        · exact hno.out j hj h2
        · obtain rfl : j = k := by omega
          exact h)
      have Hlt := Go.Lib.hid hlt
      generalize hx : l[k] = x at *
      obtain ⟨nm, en, ea, es⟩ := x
      simp only [] at c0 c1 c2 c3
      have hc := HF.out nm en ea es wr hbc
      have HBC := Go.Lib.hid hbc
      cases hp : p (nm, en, ea, es) with
      | true =>
        rw [hp] at hc
        have HC := Go.Lib.hid hc
        have HY := Go.Lib.hid (Hyes.out hp)
        clear hp hc hx hno Hyes Hnot hbc hbs
        go_wp2_with (go_at_fn g; refine HC.out.mono ?_; rintro e w2 ⟨rfl, hb2⟩)
        go_ret
        exact ⟨ret_int HY.out.symm, HBC.out.trans (hb2.mono HBC.out.size)⟩
      | false =>
        rw [hp] at hc
        have HC := Go.Lib.hid hc
        have HN := Go.Lib.hid (Hnot.out hp)
        clear hp hc hx hno Hyes Hnot hbc hbs
        go_wp2_with (go_at_fn g; refine HC.out.mono ?_; rintro e w2 ⟨rfl, hb2⟩)
        go_roundw
        case rel => exact ⟨k + 1, by have := Hlt.out; omega, by go_num, HN, HBC.out.trans (hb2.mono HBC.out.size)⟩
        case measure => simp only [intOf]; have := Hlt.out; omega
    · obtain rfl : k = l.length := by omega
      have HN := Go.Lib.hid (idxE_no (p := p) (l := l) (fun j hj => hno.out j hj hj))
      clear hno hlt
      go_wp2_with fail
      go_ret
      exact ⟨ret_int HN.out.symm, hbc⟩

set_option maxRecDepth 100000 in
theorem findfn_c (nm : ByteArray) (n a s : Int) (q : Nat) (x : ByteArray) (W : World) (hq : W.cell? ⟨q, 0, none⟩ = some (.string x)) :
    Calls Try.prog 27 #[.agg #[.string nm, .int .i64 n, .int .i64 a, .int .i64 s], .pointer (some ⟨q, 0, none⟩)] W fun e w' => e = .returned (.bool (nmE x (nm, n, a, s))) ∧ Below W.heap.size W w' := by
  have hnew := heap_alloc_new W (.cells #[.string nm, .int .i64 n, .int .i64 a, .int .i64 s] 32)
  have hb := newB W (.cells #[.string nm, .int .i64 n, .int .i64 a, .int .i64 s] 32)
  obtain ⟨x0, x1, x2, x3⟩ := row4 hnew
  have hq := keptC hq hb
  have HB := Go.Lib.hid hb
  clear hnew hb
  go_enter Try.func27, Try.ntmps27
  go_wp2_with fail
  go_ret
  exact ⟨rfl, HB.out⟩

set_option maxRecDepth 100000 in
theorem find_c (v : Value) (l : List EntT) (x : ByteArray) (w : World) (hv : RE w v l) :
    Calls Try.prog 16 #[v, .string x] w fun e w' => e = .returned (.int .i64 (findE l x)) ∧ Below w.heap.size w w' := by
  have hb := newB w (.cells #[.string x] 9)
  have hnew := heap_alloc_new w (.cells #[.string x] 9)
  have hq : (w.alloc (.cells #[.string x] 9)).cell? ⟨w.heap.size, 0, none⟩ = some (.string x) := by rw [cell_of_row _ _ 0 _ _ _ hnew]; rfl
  have C := indexfunc_c 27 #[.pointer (some ⟨w.heap.size, 0, none⟩)] (nmE x) v l _ (hv.below hb) (enters_of Try.func27 (by kernel_rfl) rfl)
    (fun nm n a s W hW => by exact findfn_c nm n a s w.heap.size x W (keptC hq hW))
  have HC := Go.Lib.hid C
  have HB := Go.Lib.hid hb
  obtain ⟨a, cap, rfl, -⟩ := hv.form
  clear C hnew hq hb hv
  go_enter Try.func16, Try.ntmps16
  go_wp2_with fail
  refine HC.out.mono ?_
  rintro e w2 ⟨rfl, hb2⟩
  have HB2 := Go.Lib.hid (HB.out.trans (hb2.mono HB.out.size))
  clear hb2
  go_wp2_with fail
  go_ret
  exact ⟨rfl, HB2.out⟩

end Go.Proofs.Yteickihofbkbkaa
