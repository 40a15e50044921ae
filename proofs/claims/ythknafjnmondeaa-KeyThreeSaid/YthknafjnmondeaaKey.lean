/-
  Package key: contracts of May, Less, Runes, Fold (and of slices.Compare at runes).
-/
import Derived.Test.YthknafjnmondeaaKeyR
import Derived.Test.YthknafjnmondeaaFold
import Derived.Test.YthknafjnmondeaaOf
namespace Go.Proofs.Ythknafjnmondeaa
open Go.RowKit Go.Op

set_option maxRecDepth 100000 in
theorem kmay_c (s : ByteArray) (w : World) (hm : s.size ≤ 1000000) : Calls Try.prog 9 #[.string s] w fun e w' => e = .returned (.bool (mayK s)) ∧ Below w.heap.size w w' := by
  have hb := Below.refl w.heap.size w
  by_cases h1 : 1 ≤ s.size
  · by_cases h2 : s.size ≤ 16
    · go_enter Try.func9, Try.ntmps9
      go_wp2
      go_ret
      exact ⟨ret_of (congrArg Value.bool (by unfold mayK; simp [h1, h2]; try omega)), hb⟩
    · go_enter Try.func9, Try.ntmps9
      go_wp2
      go_ret
      exact ⟨ret_of (congrArg Value.bool (by unfold mayK; simp [h2]; try omega)), hb⟩
  · go_enter Try.func9, Try.ntmps9
    go_wp2
    go_ret
    exact ⟨ret_of (congrArg Value.bool (by unfold mayK; simp [h1]; try omega)), hb⟩

theorem kless_c (a b : ByteArray) (w : World) : Calls Try.prog 11 #[.string a, .string b] w fun e w' => e = .returned (.bool (bytesLess a.toList b.toList)) ∧ Below w.heap.size w w' := by
  have hb := Below.refl w.heap.size w
  go_enter Try.func11, Try.ntmps11
  go_wp2
  go_ret
  exact ⟨rfl, hb⟩

theorem isnan_c (x : Nat) (w : World) : Calls Try.prog 23 #[.int .i32 (x : Int)] w fun e w' => e = .returned (.bool false) ∧ w = w' := by
  go_enter Try.func23, Try.ntmps23
  go_wp2
  go_ret
  exact ⟨ret_of (by simp), rfl⟩

set_option maxRecDepth 100000 in
theorem ccmp_c (p q : Nat) (w : World) (c : Int) (hc : c = if p < q then -1 else if q < p then 1 else 0) : Calls Try.prog 21 #[.int .i32 (p : Int), .int .i32 (q : Int)] w fun e w' => e = .returned (.int .i64 c) ∧ w = w' := by
  have C1 := Go.Lib.hid fun W => isnan_c p W
  have C2 := Go.Lib.hid fun W => isnan_c q W
  rcases Nat.lt_trichotomy p q with h | h | h
  · rw [if_pos h] at hc
    have Hc := Go.Lib.hid hc; clear hc
    go_enter Try.func21, Try.ntmps21
    go_wp2_with fail
    refine (C1.out _).mono ?_
    rintro e w1 ⟨rfl, rfl⟩
    go_wp2_with fail
    refine (C2.out _).mono ?_
    rintro e w1 ⟨rfl, rfl⟩
    go_wp2
    go_ret
    exact ⟨ret_int Hc.out.symm, rfl⟩
  · subst h
    rw [if_neg (by omega), if_neg (by omega)] at hc
    have Hc := Go.Lib.hid hc; clear hc
    go_enter Try.func21, Try.ntmps21
    go_wp2_with fail
    refine (C1.out _).mono ?_
    rintro e w1 ⟨rfl, rfl⟩
    go_wp2_with fail
    refine (C2.out _).mono ?_
    rintro e w1 ⟨rfl, rfl⟩
    go_wp2
    go_ret
    exact ⟨ret_int Hc.out.symm, rfl⟩
  · rw [if_neg (by omega), if_pos h] at hc
    have Hc := Go.Lib.hid hc; clear hc
    have hn : ¬ p < q := by omega
    go_enter Try.func21, Try.ntmps21
    go_wp2_with fail
    refine (C1.out _).mono ?_
    rintro e w1 ⟨rfl, rfl⟩
    go_wp2_with fail
    refine (C2.out _).mono ?_
    rintro e w1 ⟨rfl, rfl⟩
    go_wp2
    go_ret
    exact ⟨ret_int Hc.out.symm, rfl⟩

set_option maxHeartbeats 2000000 in
set_option maxRecDepth 100000 in
theorem scmp_c (x y : List Nat) (u v : Value) (w : World) (hx : RV w u (zi .i32 x)) (hy : RV w v (zi .i32 y)) (hxl : x.length ≤ 1000000) (hyl : y.length ≤ 1000000) :
    Calls Try.prog 17 #[u, v] w fun e w' => e = .returned (.int .i64 (cmpN x y)) ∧ w = w' := by
  have hca : cmpN x y = cmpN (x.drop 0) (y.drop 0) := rfl
  obtain ⟨a1, p1, rfl, -⟩ := id hx
  obtain ⟨a2, p2, rfl, -⟩ := id hy
  rw [zi_length] at hx hy
  rw [zi_length, zi_length]
  generalize cmpN x y = c at *
  have hx' := Go.Lib.hid hx; clear hx
  have hy' := Go.Lib.hid hy; clear hy
  have Hc := Go.Lib.hid hca; clear hca
  have C1 := Go.Lib.hid fun p q W c hc => ccmp_c p q W c hc
  go_enter Try.func17, Try.ntmps17
  go_wp2_with fail
  go_loopw [11] (fun i wr => ∃ k : Nat, k ≤ x.length ∧ k ≤ y.length ∧ i = .int .i64 (k : Int) ∧ Hid (c = cmpN (x.drop k) (y.drop k)) ∧ w = wr) (fun i _ => x.length - (intOf i).toNat)
  case atStart => exact ⟨0, by omega, by omega, rfl, Hc, rfl⟩
  case round =>
    obtain ⟨k, hkx, hky, rfl, hc, rfl⟩ := hrel
    by_cases hk1 : k < x.length
    · obtain ⟨b1, o1, rfl, q1, -⟩ := hx'.out.at k (by rw [zi_length]; exact hk1)
      rw [zi_at _ _ _ hk1] at q1
      by_cases hk2 : k < y.length
      · obtain ⟨b2, o2, rfl, q2, -⟩ := hy'.out.at k (by rw [zi_length]; exact hk2)
        rw [zi_at _ _ _ hk2] at q2
        have hat := cmpN_at x y k hk1 hk2
        rw [← hc.out] at hat
        generalize x[k] = p at *
        generalize y[k] = q at *
        have Hat := Go.Lib.hid hat; clear hat hc hx' hy' Hc
        have hg : ¬ y.length ≤ k := by omega
        rcases Nat.lt_trichotomy p q with h | h | h
        · have he := Hat.out
          rw [if_pos h] at he
          have He := Go.Lib.hid he; clear he Hat
          have C2 := Go.Lib.hid fun W => C1.out p q W (-1) (by rw [if_pos h]); clear C1
          go_wp2_with fail
          refine (C2.out _).mono ?_
          rintro e w2 ⟨rfl, rfl⟩
          go_wp2
          go_ret
          exact ⟨ret_int He.out.symm, rfl⟩
        · have he := Hat.out
          subst h
          rw [if_neg (by omega), if_neg (by omega)] at he
          have He := Go.Lib.hid he; clear he Hat
          have C2 := Go.Lib.hid fun W => C1.out p p W 0 (by rw [if_neg (by omega), if_neg (by omega)]); clear C1
          go_wp2_with fail
          refine (C2.out _).mono ?_
          rintro e w2 ⟨rfl, rfl⟩
          go_wp2
          go_roundw
          case rel => exact ⟨k + 1, by omega, by omega, by go_num, He, trivial⟩
          case measure => simp [intOf]; omega
        · have he := Hat.out
          rw [if_neg (by omega), if_pos h] at he
          have He := Go.Lib.hid he; clear he Hat
          have C2 := Go.Lib.hid fun W => C1.out p q W 1 (by rw [if_neg (by omega), if_pos h]); clear C1
          go_wp2_with fail
          refine (C2.out _).mono ?_
          rintro e w2 ⟨rfl, rfl⟩
          go_wp2
          go_ret
          exact ⟨ret_int He.out.symm, rfl⟩
      · have he := hc.out.trans (cmpN_end x y k hkx hky (by omega))
        rw [if_neg (by omega), if_pos (by omega)] at he
        have He := Go.Lib.hid he; clear he hc hx' hy' Hc C1
        go_wp2
        go_ret
        exact ⟨ret_int He.out.symm, rfl⟩
    · have he := hc.out.trans (cmpN_end x y k hkx hky (by omega))
      clear hc hx' hy' Hc C1
      by_cases h1 : x.length < y.length
      · rw [if_pos h1] at he
        have He := Go.Lib.hid he; clear he
        go_wp2
        go_ret
        exact ⟨ret_int He.out.symm, rfl⟩
      · rw [if_neg h1, if_neg (by omega)] at he
        have He := Go.Lib.hid he; clear he
        go_wp2
        go_ret
        exact ⟨ret_int He.out.symm, rfl⟩

set_option maxRecDepth 100000 in
theorem kcmp_c (a b : ByteArray) (w : World) (ha : a.size ≤ 1000000) (hb : b.size ≤ 1000000) :
    Calls Try.prog 12 #[.string a, .string b] w fun e w' => e = .returned (.int .i64 (cmpS a b)) ∧ Below w.heap.size w w' := by
  have hla := toks_length (bl a)
  have hlb := toks_length (bl b)
  rw [← bl_size] at hla hlb
  have c1 := fun W => of_c a W (by omega)
  have c2 := fun W => of_c b W (by omega)
  have hca : cmpS a b = cmpN (runesOf (toks (bl a))) (runesOf (toks (bl b))) := rfl
  rw [hca]
  have hxl : (runesOf (toks (bl a))).length ≤ 1000000 := by unfold runesOf; rw [List.length_map]; omega
  have hyl : (runesOf (toks (bl b))).length ≤ 1000000 := by unfold runesOf; rw [List.length_map]; omega
  generalize runesOf (toks (bl a)) = x at *
  generalize runesOf (toks (bl b)) = y at *
  have C3 := Go.Lib.hid fun u v W hx hy => scmp_c x y u v W hx hy hxl hyl
  generalize cmpN x y = c at *
  have C1 := Go.Lib.hid c1; clear c1
  have C2 := Go.Lib.hid c2; clear c2
  clear hla hlb ha hb hca hxl hyl
  go_enter Try.func12, Try.ntmps12
  go_wp2_with fail
  refine (C1.out _).mono ?_
  rintro e w1 ⟨v1, rfl, hx, hb1⟩
  clear C1
  go_wp2_with fail
  refine (C2.out _).mono ?_
  rintro e w2 ⟨v2, rfl, hy, hb2⟩
  have hx := hx.rv.below hb2
  have hy := hy.rv
  have hbb := hb1.trans (hb2.mono hb1.size)
  clear hb1 hb2 C2
  have C4 := Go.Lib.hid (C3.out v1 v2 w2 hx hy); clear C3 hx hy
  go_wp2_with fail
  refine C4.out.mono ?_
  rintro e w3 ⟨rfl, rfl⟩
  go_wp2
  go_ret
  exact ⟨rfl, hbb⟩

set_option maxHeartbeats 2000000 in
set_option maxRecDepth 100000 in
theorem kfold_c (s : ByteArray) (w : World) (hm : s.size ≤ 1000000) :
    Calls Try.prog 14 #[.string s] w fun e w' => e = .returned (.string (str (foldL (bl s)))) ∧ Below w.heap.size w w' := by
  have hcv := Go.Lib.run_convert_string_bytes (P := Try.prog) w 9 35 5 s Try.underlying9 Try.underlying35 Try.underlying5
  have hown := bytes_own w 5 s
  have hbb := bytes_below w 5 s
  have hc1 := grownCap_ge w s.size 0 5
  have hc2 := grownCap_le_maxLen w s.size 0 5 (by unfold maxLen; omega)
  have hsz := bl_size s
  generalize bl s = l at *
  generalize grownCap w s.size 0 5 = cap at *
  generalize Go.Lib.bytesWorld w 5 s = w1 at *
  have Hsz := Go.Lib.hid hsz; clear hsz
  go_enter Try.func14, Try.ntmps14
  go_wp2_with fail
  go_loopw [10] (fun i wr => ∃ k : Nat, k ≤ l.length ∧ i = .int .i64 (k : Int) ∧ OwnC wr w.heap.size (foldL (l.take k) ++ l.drop k) ∧ Below w.heap.size w wr) (fun i _ => l.length - (intOf i).toNat)
  case atStart => exact ⟨0, by omega, rfl, by simpa [foldL] using hown, hbb⟩
  case round =>
    obtain ⟨k, hk, rfl, ho, hbr⟩ := hrel
    have hl2 := fold_length2 l k
    by_cases hlt : k < l.length
    · have hcell := ho.cell k (by omega)
      have hfree := ho.free k (by omega)
      rw [fold_at l k hlt] at hcell
      have hstep := fold_step l k hlt
      have hkeep := fold_keep l k hlt
      have hst := fun c x hx => ho.store k (by omega) c x hx
      have hsk : k < s.size := by rw [Hsz.out]; exact hlt
      have hbs := hbr.setCell (p := ⟨w.heap.size, k, none⟩) (Nat.le_refl _)
      have Hbr := Go.Lib.hid hbr; clear hbr
      have Hbs := Go.Lib.hid hbs; clear hbs
      have Hst := Go.Lib.hid hst; clear hst
      have Hstep := Go.Lib.hid hstep; clear hstep
      have Hkeep := Go.Lib.hid hkeep; clear hkeep
      have Ho := Go.Lib.hid ho; clear ho hl2 hown hbb hc1 hc2 hcv
      generalize hc : l[k] = c at hcell Hstep Hkeep
      have hc256 : c.toNat < 256 := c.toNat_lt
      clear hc
      by_cases h1 : c.toNat < 65
      · have hlow : Hid (low c = c) := by unfold Hid low; rw [if_neg (by omega)]
        go_wp2_with fail
        go_roundw
        case rel => exact ⟨k + 1, by omega, by go_num, by rw [← Hkeep.out hlow.out]; exact Ho.out, Hbr.out⟩
        case measure => simp [intOf]; omega
      by_cases h2 : 90 < c.toNat
      · have hlow : Hid (low c = c) := by unfold Hid low; rw [if_neg (by omega)]
        go_wp2_with fail
        go_roundw
        case rel => exact ⟨k + 1, by omega, by go_num, by rw [← Hkeep.out hlow.out]; exact Ho.out, Hbr.out⟩
        case measure => simp [intOf]; omega
      · have hlow : Hid (low c = UInt8.ofNat (c.toNat + 32)) := by unfold Hid low; rw [if_pos (by omega)]
        have hst := Hst.out (UInt8.ofNat (c.toNat + 32)) ((c.toNat : Int) - 65 + 97) (by rw [ofNat_toNat _ (by omega)]; omega)
        rw [← hlow.out, Hstep.out] at hst
        have Hst2 := Go.Lib.hid hst; clear hst
        have hw1 : IntKind.u8.wrap ((c.toNat : Int) - 65) = (c.toNat : Int) - 65 := by rw [IntKind.wrap_u8]; omega
        have hw2 : IntKind.u8.wrap ((c.toNat : Int) - 65 + 97) = (c.toNat : Int) - 65 + 97 := by rw [IntKind.wrap_u8]; omega
        clear Hst Hstep Hkeep Ho hlow
        go_wp2_with fail
        go_roundw
        case rel => exact ⟨k + 1, by omega, by go_num, Hst2.out, Hbs.out _⟩
        case measure => simp [intOf]; omega
    · obtain rfl : k = l.length := by omega
      rw [List.take_of_length_le (Nat.le_refl _), List.drop_of_length_le (Nat.le_refl _), List.append_nil] at ho
      have hrb := ho.rb (n := s.size) (cap := cap) (by rw [fold_len]; exact Hsz.out) hc1 hc2
      clear hown hbb hcv ho
      have hnk : ¬ l.length < s.size := by rw [Hsz.out]; omega
      go_wp2_with (first
        | (with_reducible show wpList _ _ _ (⟨some 29, _, _, _, _, _⟩ :: _) _ _; go_loud (refine wpList_string_RB rfl (.tmp 28) 35 9 rfl 5 Try.underlying35 Try.underlying5 Try.underlying9 (.slice (some ⟨w.heap.size, 0, none⟩) s.size cap) (foldL l) rfl hrb ?_))
        | fail)
      go_ret
      exact ⟨rfl, hbr⟩

end Go.Proofs.Ythknafjnmondeaa
