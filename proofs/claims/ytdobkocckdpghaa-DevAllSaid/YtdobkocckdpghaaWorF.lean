/-
  The contracts of the law's own device: dead, next, writes.
-/
import Derived.Test.YtdobkocckdpghaaWorV
import Derived.Deep.RegionHeld3
namespace Go.Proofs.Ytdobkocckdpghaa
open Go.RowKit

/-- The fuse behind a call. -/
def burn (f : Int) : Int := if 0 < f then f - 1 else f

section
variable {w : World} {B q g1 c1 g2 c2 g3 c3 n : Nat} {X1 X2 : Nat → Value} {S : Nat → Sec} {calls fuse : Int}
set_option maxRecDepth 100000
theorem wdead_c (h : WV w B q g1 c1 g2 c2 g3 c3 n X1 X2 S calls fuse) : Calls Try.prog 12 #[.pointer (some ⟨q, 0, none⟩)] w fun e w' => e = .returned (.bool (fuse == 0)) ∧ w = w' := by
  have k4 := h.k4
  clear h
  go_enter Try.func12, Try.ntmps12
  go_wp2_with fail
  go_ret
  exact ⟨rfl, rfl⟩
theorem wnext_c (h : WV w B q g1 c1 g2 c2 g3 c3 n X1 X2 S calls fuse) (h0 : -1 ≤ fuse) (h1 : fuse ≤ 9223372036854775807) (k0 : 0 ≤ calls) (k1 : calls ≤ 1000000) :
    Calls Try.prog 28 #[.pointer (some ⟨q, 0, none⟩)] w fun e w' => e = .returned (.tuple #[]) ∧ WV w' B q g1 c1 g2 c2 g3 c3 n X1 X2 S (calls + 1) (burn fuse) ∧ Far q g1 g2 g3 w w' := by
  have k3 := h.k3
  have k4 := h.k4
  have f3 := h.fz 3
  have f4 := h.fz 4
  have H := Go.Lib.hid h
  clear h
  by_cases hf : 0 < fuse
  · have e : burn fuse = fuse - 1 := by unfold burn; rw [if_pos hf]
    rw [e]
    clear e
    go_enter Try.func28, Try.ntmps28
    go_wp2_with fail
    go_end0
    exact ⟨rfl, (H.out.setCalls _).setFuse _, ((Far.refl _ _ _ _ _).set (.inl rfl) _).set (.inl rfl) _⟩
  · have e : burn fuse = fuse := by unfold burn; rw [if_neg hf]
    rw [e]
    clear e
    go_enter Try.func28, Try.ntmps28
    go_wp2_with fail
    go_end0
    exact ⟨rfl, H.out.setCalls _, (Far.refl _ _ _ _ _).set (.inl rfl) _⟩
end

/-- 'copy(c, b)', c a row of the call's own, b no longer. -/
theorem wpList_copy_over {ops : Array Oper} {rest : List Oper} {o : Oper} {a : Act} {w : World} {Q : Exit → Act → World → Prop} (hgd : o.guard = none) (d s : Operand)
    (ho : o.op = .call { callee := .builtin .copy, args := #[d, s], argTypes := #[31, 31] })
    (B : Nat) (v sv : Value) (l0 l : List UInt8) (hd : a.eval d = v) (hs : a.eval s = sv) (hown : Own 5 w B v l0) (hrb : RB w sv l) (hlen : l.length ≤ l0.length) (w0 : World) (hb : Below B w0 w)
    (h : ∀ w' k, Hid (Own 5 w' B v (over l0 l)) → Hid (Below B w0 w') → wpList Try.prog ops Q rest (a.put o.dst (goInt k)) w') : wpList Try.prog ops Q (o :: rest) a w := by
  obtain ⟨i, hi, hz, hsize, hby⟩ := info_parts info8
  obtain ⟨ad, cap, rfl, h1, h2, h3, h4⟩ := hrb
  have hsz : (Try.prog.info? 5).map (·.size) = some 1 := by rw [hi]; simp [hsize]
  by_cases hl0 : l0.length = 0
  · obtain rfl : l = [] := List.eq_nil_of_length_eq_zero (by omega)
    obtain rfl : l0 = [] := List.eq_nil_of_length_eq_zero hl0
    have hf : ∃ p n c, v = .slice p n c := by
      rcases hown.2 with ⟨rfl, -⟩ | ⟨g, dcap, cur, rfl, -⟩
      · exact ⟨_, _, _, rfl⟩
      · exact ⟨_, _, _, rfl⟩
    obtain ⟨p, n, c, rfl⟩ := hf
    refine wpList_copy_nothing hgd d s _ _ ho 5 Try.underlying31 hsz p ad n c 0 cap hd hs (by simp) ?_
    exact h w 0 hown hb
  · rcases hown.2 with ⟨rfl, hn⟩ | ⟨g, dcap, cur, rfl, hB, hg, d1, d2, d3, d4⟩
    · exact absurd hn hl0
    · refine wpList_copy_splice hgd d s _ _ ho 5 Try.underlying31 hsz (some ⟨g, 0, none⟩) ad l0.length dcap l.length cap hd hs g 0 cur.toList 5 (by simpa using hg) (cells l) (by rw [cells_length]; exact (Nat.min_eq_left hlen).symm) ?_ ?_ (cells_one l) B w0 hb hB ?_
      · intro hp
        rw [cells_length] at hp
        obtain ⟨b, o', hao, hc⟩ := h4 (List.length_pos_iff.1 hp)
        refine ⟨rfl, _, hao, fun j u hj => ?_⟩
        have hjm : j < l.length := by
          rcases Nat.lt_or_ge j l.length with hlt | hge
          · exact hlt
          · rw [List.getElem?_eq_none (by simpa [cells_length] using hge)] at hj; cases hj
        rw [cells_at l j hjm] at hj
        cases hj
        rw [Addr.add_mid]
        exact hc j hjm
      · simp only [cells_length, Nat.zero_add, Array.length_toList]; omega
      · intro w' hw' hb'
        have hh := hw'.out
        rw [cells_length]
        have hol : (over l0 l).length = l0.length := over_length hlen
        refine h w' l.length ⟨by simp [cells_length], .inr ⟨g, dcap, _, by rw [hol], hB, hh, by rw [hol]; exact d1, d2, ?_, ?_⟩⟩ hb'
        · rw [List.size_toArray, length_splice _ _ _ (by simp only [cells_length, Array.length_toList]; omega), Array.length_toList, d3]
        · rw [hol]
          simp only [splice, Nat.mul_one, Nat.zero_add, List.take_zero, List.nil_append]
          simp only [Nat.mul_one] at d4
          unfold over
          rw [cells_append, List.take_append, cells_length, List.take_of_length_le (by rw [cells_length]; exact hlen), ← List.drop_take, d4]
          congr 1
          unfold cells
          rw [List.map_drop]

section
variable {w : World} {B q g1 c1 g2 c2 g3 c3 n : Nat} {X1 X2 : Nat → Value} {S : Nat → Sec} {calls fuse : Int}
set_option maxRecDepth 100000
set_option maxHeartbeats 1000000
theorem wwrites_c (h : WV w B q g1 c1 g2 c2 g3 c3 n X1 X2 S calls fuse) (h0 : -1 ≤ fuse) (h1 : fuse ≤ 9223372036854775807) (k0 : 0 ≤ calls) (k1 : calls ≤ 1000000) (i : Nat) (hi : i < n) (b : Value) (l : List UInt8) (hv : RB w b l) (hl : l.length ≤ 64) (hB : B ≤ w.heap.size) (hn : n ≤ 8) :
    Calls Try.prog 14 #[.pointer (some ⟨q, 0, none⟩), .int .i64 (i : Int), b] w fun e w' => e = .returned (.tuple #[]) ∧ ∃ X1', WV w' B q g1 c1 g2 c2 g3 c3 n X1' X2 (wrS S i l) (calls + 1) (burn fuse) ∧ Far q g1 g2 g3 w w' := by
  have H := Go.Lib.hid h
  have HV := Go.Lib.hid hv
  have j0 := h.k0
  have r1 := h.r1 i hi
  have hiI : (i : Int) < (n : Int) := by omega
  have hl64 := (h.whole i hi).1
  have hx := (h.e1 i hi).rb
  obtain ⟨xa, xc, hxe, -⟩ := id hx
  rw [hxe] at r1
  rw [hl64] at hxe r1
  have hxr : RB w (.slice xa 64 xc) (S i).now := by rw [← hxe]; exact hx
  have HXR := Go.Lib.hid hxr
  have HL64 := Go.Lib.hid hl64
  clear h hv hx hxr hl64
  go_enter Try.func14, Try.ntmps14
  go_upto_region 1 with (first
    | (with_reducible show wpList _ _ _ (⟨some 14, _, _, _, _, _⟩ :: _) _ _; go_must (refine wpList_append_RB rfl (.const (.slice none 0 0)) (.tmp 13) 31 rfl w.heap.size 5 Try.underlying31 info8 (.slice none 0 0) (.slice xa 64 xc) [] (S i).now rfl rfl (Own.nil _ _ _) HXR.out (by simp; rw [HL64.out]; omega) (Nat.le_refl _) ?_); intro vc w2 hown hg; rw [List.nil_append] at hown)
    | fail)
  have hb2 := grown_below hg (Nat.le_refl _) (by simp [Value.ownBlock])
  have HB2 := Go.Lib.hid hb2
  have HO2 := Go.Lib.hid hown
  have HV2 := Go.Lib.hid (HV.out.below hb2)
  obtain ⟨va, vcap, rfl, -⟩ := id hown.rb
  rw [HL64.out]
  clear hown hg hb2 HXR
  obtain ⟨ba, bcap, rfl, hbl, hbm, -⟩ := id HV2.out
  unfold maxLen at hbm
  go_upto_region 2 with (first
    | (with_reducible show wpList _ _ _ (⟨some 17, _, _, _, _, _⟩ :: _) _ _; go_must (refine wpList_copy_over rfl (.tmp 15) (.tmp 16) rfl w.heap.size (.slice va 64 vcap) (.slice ba l.length bcap) (S i).now l rfl rfl (by have := HO2.out; rw [HL64.out] at this; exact this) HV2.out (by rw [HL64.out]; exact hl) w HB2.out ?_); intro w3 kk ho3 hb3)
    | fail)
  have hb3' := hb3.out
  have wv := H.out.below hb3'
  obtain ⟨a1, a2, a3, a4, a5⟩ := wv.apart
  have q0 := wv.k0
  have q2 := wv.k2
  have s1 := wv.r1 i hi
  rw [hxe] at s1
  have s3 := wv.r3 i hi
  have z1 := wv.fz1 i
  have z3 := wv.fz3 i
  have HWV := Go.Lib.hid wv
  clear j0 r1 hxe HO2 HB2 HV HV2 hbl hbm hb3' wv
  have hn1 := a1.symm
  have hn3 := a3.symm
  have hn4 := a4.symm
  go_region_held3 (fun w' => w'.cell? ⟨q, 0, none⟩ = some (.slice (some ⟨g1, 0, none⟩) n c1) ∧ w'.cell? ⟨q, 2, none⟩ = some (.slice (some ⟨g3, 0, none⟩) n c3)) (go_keep) (fail)
  have hX : WV (((w3.setCell ⟨g1, i, none⟩ (.slice va 64 vcap)).setCell ⟨g3, i, none⟩ (.bool true)).drew) B q g1 c1 g2 c2 g3 c3 n (upV X1 i (.slice va 64 vcap)) X2 (wrS S i l) calls fuse := by
    refine (((HWV.out.set1 i hi _ _ (ho3.out.mono hB) (by rw [over_length (by rw [HL64.out]; exact hl)]; exact HL64.out)).set3 i hi true).drew).congr (fun j _ => ?_)
    unfold wrS upS
    by_cases e : j = i <;> simp [e]
  have HX := Go.Lib.hid hX
  have HF := Go.Lib.hid ((((Far.of_below (q := q) (g1 := g1) (g2 := g2) (g3 := g3) hb3.out).set (o := i) (.inr (.inl rfl)) (.slice va 64 vcap)).set (o := i) (.inr (.inr (.inr rfl))) (.bool true)).drew)
  clear hX HWV ho3 hb3 q0 q2 s1 s3 z1 z3 a1 a2 a3 a4 a5 hn1 hn3 hn4
  go_wp2_with fail
  refine (wnext_c HX.out h0 h1 k0 k1).mono ?_
  rintro e w4 ⟨rfl, hw, hf⟩
  go_wp2_with fail
  go_end0
  exact ⟨rfl, _, hw, HF.out.trans hf⟩
end

end Go.Proofs.Ytdobkocckdpghaa
