/-
  The contracts of bits: PutNum.
  The contracts of bits: Put, Len, Num.
-/
import Derived.Test.YtibbligidncocaaM26
import Derived.Test.YtibbligidncocaaM16
import Derived.Test.YtibbligidncocaaM17
import Derived.Laws.BitsAllLaws
import Derived.Deep.DeepCutAuto
import Derived.Deep.QuietTactic
import Derived.BigQuiet
namespace Go.Proofs.Ytibbligidncocaa
open Go.RowKit

set_option maxRecDepth 100000 in
theorem putNum_nil (x n : Int) (w : World) : Calls Try.prog 95 #[.pointer none, .int .u64 x, .int .i64 n] w fun e w' => e = .returned (.tuple #[]) ∧ w = w' := by
  go_enter Try.func95, Try.ntmps95
  go_wp2
  refine bodyPost_ret (results_none rfl _ _ _) rfl ?_
  exact ⟨rfl, rfl⟩

def V6 (b g rl cap d o x k t kt X c1 t8 c2 um c3 r : Nat) : Nat → World → Value → Prop
  | 40, _, v => v = .pointer (some ⟨b, 0, none⟩)
  | 41, _, v => v = .pointer (some ⟨b, 0, none⟩)
  | 42, _, v => v = .pointer (some ⟨b, 0, none⟩)
  | 43, _, v => v = .slice (some ⟨g, 0, none⟩) rl cap
  | 44, _, v => v = .pointer (some ⟨b, 0, none⟩)
  | 45, _, v => v = .pointer (some ⟨b, 0, none⟩)
  | 46, _, v => v = .pointer (some ⟨b, 0, none⟩)
  | 47, _, v => v = .slice (some ⟨g, 0, none⟩) rl cap
  | 48, _, v => v = .int .i64 ((rl : Nat) : Int)
  | 49, _, v => v = .int .i64 ((d : Nat) : Int)
  | 50, _, v => v = .pointer (some ⟨g, d, none⟩)
  | 51, _, v => v = .int .u8 (o : Int)
  | 52, _, v => v = .int .u64 (x : Int)
  | 53, _, v => v = .int .i64 ((k : Nat) : Int)
  | 54, _, v => v = .int .i64 ((t : Nat) : Int)
  | 55, _, v => v = .int .i64 ((kt : Nat) : Int)
  | 56, _, v => v = .int .u64 (X : Int)
  | 57, _, v => v = .int .u8 (c1 : Int)
  | 58, _, v => v = .int .i64 ((t : Nat) : Int)
  | 59, _, v => v = .int .i64 ((t8 : Nat) : Int)
  | 60, _, v => v = .int .u8 (c2 : Int)
  | 61, _, v => v = .int .i64 ((um : Nat) : Int)
  | 62, _, v => v = .int .u8 (c3 : Int)
  | 63, _, v => v = .int .u8 (r : Int)
  | 64, _, v => v = .pointer (some ⟨g, d, none⟩)
  | _, _, _ => True

theorem V6_below (b g rl cap d o x k t kt X c1 t8 c2 um c3 r : Nat) : ∀ (i : Nat) (w w' : World) (v : Value), V6 b g rl cap d o x k t kt X c1 t8 c2 um c3 r i w v → Below w.heap.size w w' → V6 b g rl cap d o x k t kt X c1 t8 c2 um c3 r i w' v := by
  intro i w w' v h hb
  unfold V6 at h ⊢
  split at h <;> first | exact h | trivial | exact RB.below h hb | exact Own.below h hb

theorem run_idx8 (g n cap j : Nat) (h : j < n) (W : World) : (Instr.indexAt 33 (.slice (some ⟨g, 0, none⟩) n cap) (.int .i64 (j : Int))).run Try.prog W = .ok (.pointer (some ⟨g, j, none⟩)) W := by
  obtain ⟨i, hi, -, hsize, -⟩ := info_parts info8
  have he : Try.prog.elem 33 = 5 := by kernel_rfl
  have hs : (sizeOf 5).run Try.prog W = .ok 1 W := by simp [sizeOf, typeInfo, hi, hsize]
  have hadd : (⟨g, 0, none⟩ : Addr).add j = ⟨g, j, none⟩ := by unfold Addr.add; split <;> simp_all
  rw [run_indexAt_slice W _ _ _ _ _ _ (by rw [he]; exact Try.underlying33), if_pos ⟨by omega, by omega⟩, he, hs]
  simp [Result.andThen, hadd]

theorem shr_nat (k yk : IntKind) (x y : Nat) (h : (y : Int) ≤ k.bits) : Op.shift .shr k (x : Int) yk (y : Int) = pure (.int k ((x / 2 ^ y : Nat) : Int)) := by
  rw [shift_shr _ _ _ _ (by omega) h, Int.toNat_natCast]
  simp
theorem shl_nat (k yk : IntKind) (x y : Nat) (h : (y : Int) ≤ k.bits) : Op.shift .shl k (x : Int) yk (y : Int) = pure (.int k (k.wrap ((x * 2 ^ y : Nat) : Int))) := by
  rw [shift_shl _ _ _ _ (by omega) h, Int.toNat_natCast]
  simp
/-- What the walk reckons of a piece. -/
theorem put_nums (o X t u : Nat) (ho : o < 256) (hut : u + t ≤ 8) :
    X % 256 * 2 ^ (8 - t) % 256 / 2 ^ u = X % 2 ^ t * 2 ^ (8 - t) / 2 ^ u ∧ bits .or .u8 (o : Int) ((X % 2 ^ t * 2 ^ (8 - t) / 2 ^ u : Nat) : Int) = ((putByte o (X % 2 ^ t) t u : Nat) : Int) := by
  have e : 256 = 2 ^ t * 2 ^ (8 - t) := by rw [← Nat.pow_add, show t + (8 - t) = 8 from by omega]
  have h1 : X % 256 * 2 ^ (8 - t) % 256 = X % 2 ^ t * 2 ^ (8 - t) := by
    have : X % 256 % 2 ^ t = X % 2 ^ t := by rw [e, Nat.mod_mul_right_mod]
    rw [← this]
    generalize X % 256 = Y
    rw [e, Nat.mul_mod_mul_right]
  refine ⟨by rw [h1], ?_⟩
  have h2 : X % 2 ^ t * 2 ^ (8 - t) / 2 ^ u < 256 := by
    refine Nat.lt_of_le_of_lt (Nat.div_le_self _ _) ?_
    rw [e]
    exact Nat.mul_lt_mul_of_pos_right (Nat.mod_lt _ (Nat.pow_pos (by omega))) (Nat.pow_pos (by omega))
  rw [u8_or_nat _ _ ho h2]
  rfl

/-- A round of PutNum: what it leaves. -/
theorem put_close {w wr wc w6 : World} {B b : Nat} {v u : Value} {g cap : Nat} {m : List Bool} {X t r : Nat} (htwo : Two b v.ownBlock w wr) (hown : u.ownBlock = v.ownBlock ∨ ∀ k, u.ownBlock = some k → w.heap.size ≤ k)
    (htwo2 : Two b u.ownBlock wr wc) (hown2 : (Value.slice (some ⟨g, 0, none⟩) (room m).length cap).ownBlock = u.ownBlock ∨ ∀ k, (Value.slice (some ⟨g, 0, none⟩) (room m).length cap).ownBlock = some k → wr.heap.size ≤ k)
    (hbb : BB wc B b (.slice (some ⟨g, 0, none⟩) (room m).length cap) (room m) m.length) (hb6 : Below wc.heap.size wc w6) (ht0 : 0 < t) (hut : m.length % 8 + t ≤ 8)
    (hr : r = putByte ((room m).getD (m.length / 8) 0).toNat (X % 2 ^ t) t (m.length % 8)) (y : Int) (hy : y = ((m.length + t : Nat) : Int)) :
    ∃ u', BT ((w6.setCell ⟨g, m.length / 8, none⟩ (.int .u8 (r : Int))).setCell ⟨b, 1, none⟩ (.int .i64 y)) B b u' (m ++ numB X t) ∧ Two b v.ownBlock w ((w6.setCell ⟨g, m.length / 8, none⟩ (.int .u8 (r : Int))).setCell ⟨b, 1, none⟩ (.int .i64 y)) ∧
      (u'.ownBlock = v.ownBlock ∨ ∀ k, u'.ownBlock = some k → w.heap.size ≤ k) := by
  have hc : (numB X t).length = t := numB_length X t
  have hlt : r < 256 := by rw [hr]; exact putByte_lt _ _ _ _ (UInt8.toNat_lt _) (Nat.mod_lt _ (Nat.pow_pos (by omega))) (by omega)
  have hpm := pack_more m (numB X t) (by rw [hc]; exact hut) (by rw [hc]; exact ht0)
  rw [hc, val_numB, ← hr] at hpm
  have h1 := ((hbb.below hb6).put (m.length / 8) (UInt8.ofNat r) (r : Int) (by rw [ofNat_val r hlt])).count (m.length + t) y hy
  rw [← hpm] at h1
  have hrow : ∀ j, (Value.slice (some ⟨g, 0, none⟩) (room m).length cap).ownBlock = some j → u.ownBlock = some j ∨ wr.heap.size ≤ j := fun j hj => by
    rcases hown2 with h | h
    · exact .inl (h.symm.trans hj)
    · exact .inr (h j hj)
  have hu : ∀ j, u.ownBlock = some j → v.ownBlock = some j ∨ w.heap.size ≤ j := fun j hj => by
    rcases hown with h | h
    · exact .inl (h.symm.trans hj)
    · exact .inr (h j hj)
  refine ⟨.slice (some ⟨g, 0, none⟩) (room m).length cap, ?_, (((htwo.trans htwo2 hu).trans (Two.of_below (r := none) hb6) (fun j hj => by cases hj)).set (p := ⟨g, m.length / 8, none⟩) ?_ _).set (p := ⟨b, 1, none⟩) (.inl rfl) _, ?_⟩
  · have e : (m ++ numB X t).length = m.length + t := by rw [List.length_append, hc]
    show BB _ _ _ _ _ _
    rw [e]
    exact h1
  · right
    rcases hrow g rfl with h | h
    · rcases hu g h with h' | h'
      · exact .inl h'.symm
      · exact .inr h'
    · exact .inr (Nat.le_trans htwo.size h)
  · rcases hown2 with h | h
    · rcases hown with h' | h'
      · exact .inl (h.trans h')
      · exact .inr fun j hj => h' j (h.symm.trans hj)
    · exact .inr fun j hj => Nat.le_trans htwo.size (h j hj)

set_option maxRecDepth 100000 in
theorem putNum_c (x : Nat) (n : Nat) (w : World) (B b : Nat) (v : Value) (l : List Bool) (h : BT w B b v l) (hn : n ≤ 64) (hl : l.length + n ≤ 562949953421312) :
    Calls Try.prog 95 #[.pointer (some ⟨b, 0, none⟩), .int .u64 (x : Int), .int .i64 (n : Int)] w fun e w' => e = .returned (.tuple #[]) ∧
      ∃ v', BT w' B b v' (l ++ numB x n) ∧ Two b v.ownBlock w w' ∧ (v'.ownBlock = v.ownBlock ∨ ∀ k, v'.ownBlock = some k → w.heap.size ≤ k) := by
  go_enter Try.func95, Try.ntmps95
  go_wp2_with fail
  go_loopw [2] (fun n' wr => ∃ (k : Nat) (m : List Bool) (u : Value), k ≤ n ∧ n' = .int .i64 (k : Int) ∧ m ++ numB x k = l ++ numB x n ∧ BT wr B b u m ∧ Two b v.ownBlock w wr ∧ (u.ownBlock = v.ownBlock ∨ ∀ k, u.ownBlock = some k → w.heap.size ≤ k)) (fun n' _ => (intOf n').toNat)
  case atStart => exact ⟨n, l, v, Nat.le_refl _, rfl, rfl, h, Two.refl _ _ _, .inl rfl⟩
  case round =>
    obtain ⟨k, m, u, hk, rfl, hm, hbt, htwo, hown⟩ := hrel
    by_cases hlt : 0 < k
    · have hc0 := hbt.c0
      have hc1 := hbt.c1
      have hf0 := hbt.f 0
      have hf1 := hbt.f 1
      have hml : m.length ≤ 562949953421312 := by have := congrArg List.length hm; simp only [List.length_append, numB_length] at this; omega
      have Hm := Go.Lib.hid hm; clear hm
      go_upto_if 26 with (fail)
      go_cut [26] (fun s wx => ∃ u2, BB wx B b u2 (room m) m.length ∧ Two b u.ownBlock wr wx ∧ (u2.ownBlock = u.ownBlock ∨ ∀ k, u2.ownBlock = some k → wr.heap.size ≤ k))
      case first =>
        by_cases h0 : m.length % 8 = 0
        · have hbt2 := hbt.below ((Below.refl _ wr).alloc (Nat.le_refl _) (.cells #[.int .u8 0] 5))
          have hx0 : (wr.alloc (.cells #[.int .u8 0] 5)).cell? ⟨wr.heap.size, 0, none⟩ = some (.int .u8 (((0 : UInt8).toNat : Nat) : Int)) := by simp
          have hsz : (wr.alloc (.cells #[.int .u8 0] 5)).heap.size = wr.heap.size + 1 := Array.size_push ..
          have hBle : B ≤ wr.heap.size + 1 := by have := hbt.lt; have := hbt.low; omega
          have hpl : (pack m).length < 140737488355328 := by rw [pack_length]; omega
          rw [← hsz] at hBle
          have Hsz := Go.Lib.hid hsz; clear hsz
          go_wp2_with (first
            | (with_reducible show wpList _ _ _ (⟨some 33, _, _, _, _, _⟩ :: _) _ _; go_must (refine wpList_append_byte _ rfl (.tmp 31) (.tmp 32) 33 rfl B 5 Try.underlying33 info8 u (pack m) wr.heap.size 1 0 rfl rfl hbt2.row hx0 hpl hBle ?_); intro u2 w2 hown2 hg2 hw2; obtain ⟨g2, cap2, rfl, -, -, hc1', hc2', -⟩ := hown2.form (by simp); have k0 := hg2.cell (a := ⟨b, 0, none⟩) hbt2.c0 hbt2.apart.symm; have kf : w2.frozen? ⟨b, 0, none⟩ = false := (World.frozen?_of_block (a := ⟨b, 0, none⟩) (hg2.block b hbt2.lt hbt2.apart.symm)).trans (hbt2.f 0))
            | fail)
          go_meet
          rw [show (pack m ++ [(0 : UInt8)]).length = (pack m).length + 1 from by simp] at hown2 hw2
          have hr : room m = pack m ++ [0] := by unfold room; rw [if_pos h0]
          exact ⟨_, by rw [hr]; exact hbt2.grown hg2 hown2, ((Two.of_below ((Below.refl _ wr).alloc (Nat.le_refl _) _)).trans (Two.of_grown hg2) (fun j hj => .inl hj)).set (p := ⟨b, 0, none⟩) (.inl rfl) _, hw2.imp id fun h k hk => Nat.le_trans (by rw [Hsz.out]; omega) (h k hk)⟩
        · go_wp2_with fail
          go_meet
          exact ⟨u, by unfold room; rw [if_neg h0]; exact hbt, Two.refl _ _ _, .inl rfl⟩
      case rest =>
        obtain ⟨u2, hbb, htwo2, hown2⟩ := hcut
        obtain ⟨g, cap, rfl, hBg, hgs, hcl, hcm, hgf⟩ := hbb.row.form (by rw [room_length]; omega)
        rw [room_length] at hcl
        obtain ⟨t, ht⟩ : ∃ t : Nat, t = min k (8 - m.length % 8) := ⟨_, rfl⟩
        have htI : min (k : Int) (8 - (m.length : Int) % 8) = (t : Int) := by omega
        have hc1 := hbb.c1
        have HB := hbb.lt
        have K0 := hbb.c0
        have hdl : m.length / 8 < (room m).length := by rw [room_length]; omega
        have KO := hbb.row.cell (m.length / 8) hdl
        have KF := hbb.row.frozenAt (m.length / 8)
        rw [room_length] at K0
        have ho : (room m)[m.length / 8] = (room m).getD (m.length / 8) 0 := by rw [List.getD_eq_getElem?_getD, List.getElem?_eq_getElem hdl]; rfl
        rw [ho] at KO
        clear ho
        have Ht := Go.Lib.hid ht
        have HK0 := Go.Lib.hid K0; clear K0
        have HKO := Go.Lib.hid KO; clear KO
        have HKF := Go.Lib.hid KF; clear KF
        have HBB := Go.Lib.hid hbb; clear hbb
        have hcap := Go.Lib.hid hcl
        clear hc0 hf0 hf1 ht hcl hcm hgf
        go_upto_region 6 with (fail)
        have hu : (m.length : Int) % 8 = ((m.length % 8 : Nat) : Int) := by omega
        rw [hu]
        clear hu hc1
        have K0 := HK0.out
        have KO := HKO.out
        have K1 := HBB.out.c1
        have F1 := HBB.out.f 1
        have hix := run_idx8 g (m.length / 8 + 1) cap (m.length / 8) (by omega)
        have ht0 : 0 < t ∧ m.length % 8 + t ≤ 8 ∧ t ≤ k ∧ t ≤ 8 := by have := Ht.out; omega
        obtain ⟨ht0, hut, htk, ht8'⟩ := ht0
        have hd1 : IntKind.i64.wrap (((m.length / 8 + 1 : Nat) : Int) - 1) = ((m.length / 8 : Nat) : Int) := by rw [IntKind.wrap_i64]; omega
        obtain ⟨kt, ekt⟩ : ∃ q : Nat, q = k - t := ⟨_, rfl⟩
        obtain ⟨t8, et8⟩ : ∃ q : Nat, q = 8 - t := ⟨_, rfl⟩
        have hkt : IntKind.i64.wrap ((k : Int) - (t : Int)) = (kt : Int) := by rw [IntKind.wrap_i64]; omega
        have ht8 : IntKind.i64.wrap (8 - (t : Int)) = (t8 : Int) := by rw [IntKind.wrap_i64]; omega
        have hX := shr_nat .u64 .i64 x kt (by show _ ≤ (64 : Int); omega)
        obtain ⟨X, eX⟩ : ∃ q : Nat, q = x / 2 ^ kt := ⟨_, rfl⟩
        obtain ⟨c1, ec1⟩ : ∃ q : Nat, q = X % 256 := ⟨_, rfl⟩
        have hc1 : IntKind.u8.wrap (X : Int) = (c1 : Int) := by rw [IntKind.wrap_u8']; omega
        have hc2 := shl_nat .u8 .i64 c1 t8 (by show _ ≤ (8 : Int); omega)
        obtain ⟨c2, ec2⟩ : ∃ q : Nat, q = c1 * 2 ^ t8 % 256 := ⟨_, rfl⟩
        have hc2' : IntKind.u8.wrap ((c1 * 2 ^ t8 : Nat) : Int) = (c2 : Int) := by rw [IntKind.wrap_u8']; omega
        rw [hc2'] at hc2
        obtain ⟨n1, n2⟩ := put_nums ((room m).getD (m.length / 8) 0).toNat X t (m.length % 8) (UInt8.toNat_lt _) hut
        rw [← et8, ← ec1, ← ec2] at n1
        rw [← et8, ← n1] at n2
        rw [← eX] at hX
        obtain ⟨c3, ec3⟩ : ∃ q : Nat, q = c2 / 2 ^ (m.length % 8) := ⟨_, rfl⟩
        have hc3i : (c2 : Int) / 2 ^ (m.length % 8) = (c3 : Int) := by rw [ec3]; simp
        rw [← ec3] at n2
        have hr := n2
        obtain ⟨r, er⟩ : ∃ q : Nat, q = putByte ((room m).getD (m.length / 8) 0).toNat (X % 2 ^ t) t (m.length % 8) := ⟨_, rfl⟩
        rw [← er] at hr
        have Er := Go.Lib.hid er
        have EX := Go.Lib.hid eX
        have Ekt := Go.Lib.hid ekt
        clear n1 n2 er ec3 hc2' ec2 ec1 eX et8 ekt
        have Er2 := Er
        generalize ((room m).getD (m.length / 8) 0).toNat = o at KO hr Er
        clear Er
        generalize hd : m.length / 8 = d at *
        generalize hu : m.length % 8 = um at *
        have Hd := Go.Lib.hid hd
        have Hu := Go.Lib.hid hu
        clear hd hu
        generalize d + 1 = rl at *
        have hmt : (m.length : Int) + (t : Int) = ((m.length + t : Nat) : Int) := by omega
        have Hmt := Go.Lib.hid hmt; clear hmt
        refine wp_region_head 25 (by decide) (by kernel_rfl) (V6 b g rl cap d o x k t kt X c1 t8 c2 um c3 r) (V6_below b g rl cap d o x k t kt X c1 t8 c2 um c3 r) (by decide +kernel) (by rfl) [40, 41, 42, 43, 44, 45, 46, 47, 48, 49, 50, 51, 52, 53, 54, 55, 56, 57, 58, 59, 60, 61, 62, 63, 64] (by rfl) ?_ ?_
        · intro i o hin ho a w6 hb6 hlen hg
          have k0 := (hb6.cell (p := ⟨b, 0, none⟩) HB).trans K0
          have ko := (hb6.cell (p := ⟨g, d, none⟩) hgs).trans KO
          match i, hin, ho with
          | 0, hin, ho =>
            obtain rfl := Option.some.inj ho
            have h0 := given_old hg 0 (by decide +kernel)
            clear hg
            exact st_yield ho (wanted_none rfl) (.pointer (some ⟨b, 0, none⟩)) w6 (by simp [execOp, Act.eval, h0, go_sem]) ⟨_, rfl, Below.refl _ _, by rintro t' ⟨⟩; rfl⟩
          | 1, hin, ho =>
            obtain rfl := Option.some.inj ho
            obtain ⟨_, h40, rfl⟩ := given_fed hg 40 (by decide +kernel)
            clear hg
            exact st_yield ho (wanted_none rfl) (.pointer (some ⟨b, 0, none⟩)) w6 (by simp [execOp, Act.eval, h40, go_sem]) ⟨_, rfl, Below.refl _ _, by rintro t' ⟨⟩; rfl⟩
          | 2, hin, ho =>
            obtain rfl := Option.some.inj ho
            obtain ⟨_, h41, rfl⟩ := given_fed hg 41 (by decide +kernel)
            clear hg
            exact st_yield ho (wanted_none rfl) (.pointer (some ⟨b, 0, none⟩)) w6 (by simp [execOp, Act.eval, h41, go_sem]) ⟨_, rfl, Below.refl _ _, by rintro t' ⟨⟩; rfl⟩
          | 3, hin, ho =>
            obtain rfl := Option.some.inj ho
            obtain ⟨_, h42, rfl⟩ := given_fed hg 42 (by decide +kernel)
            clear hg
            exact st_yield ho (wanted_none rfl) (.slice (some ⟨g, 0, none⟩) rl cap) w6 (by simp [execOp, Act.eval, h42, go_sem, k0]) ⟨_, rfl, Below.refl _ _, by rintro t' ⟨⟩; rfl⟩
          | 4, hin, ho =>
            obtain rfl := Option.some.inj ho
            have h0 := given_old hg 0 (by decide +kernel)
            clear hg
            exact st_yield ho (wanted_none rfl) (.pointer (some ⟨b, 0, none⟩)) w6 (by simp [execOp, Act.eval, h0, go_sem]) ⟨_, rfl, Below.refl _ _, by rintro t' ⟨⟩; rfl⟩
          | 5, hin, ho =>
            obtain rfl := Option.some.inj ho
            obtain ⟨_, h44, rfl⟩ := given_fed hg 44 (by decide +kernel)
            clear hg
            exact st_yield ho (wanted_none rfl) (.pointer (some ⟨b, 0, none⟩)) w6 (by simp [execOp, Act.eval, h44, go_sem]) ⟨_, rfl, Below.refl _ _, by rintro t' ⟨⟩; rfl⟩
          | 6, hin, ho =>
            obtain rfl := Option.some.inj ho
            obtain ⟨_, h45, rfl⟩ := given_fed hg 45 (by decide +kernel)
            clear hg
            exact st_yield ho (wanted_none rfl) (.pointer (some ⟨b, 0, none⟩)) w6 (by simp [execOp, Act.eval, h45, go_sem]) ⟨_, rfl, Below.refl _ _, by rintro t' ⟨⟩; rfl⟩
          | 7, hin, ho =>
            obtain rfl := Option.some.inj ho
            obtain ⟨_, h46, rfl⟩ := given_fed hg 46 (by decide +kernel)
            clear hg
            exact st_yield ho (wanted_none rfl) (.slice (some ⟨g, 0, none⟩) rl cap) w6 (by simp [execOp, Act.eval, h46, go_sem, k0]) ⟨_, rfl, Below.refl _ _, by rintro t' ⟨⟩; rfl⟩
          | 8, hin, ho =>
            obtain rfl := Option.some.inj ho
            obtain ⟨_, h47, rfl⟩ := given_fed hg 47 (by decide +kernel)
            clear hg
            exact st_yield ho (wanted_none rfl) (.int .i64 ((rl : Nat) : Int)) w6 (by simp [execOp, Act.eval, h47, go_sem, resolve, invoke, builtin]) ⟨_, rfl, Below.refl _ _, by rintro t' ⟨⟩; rfl⟩
          | 9, hin, ho =>
            obtain rfl := Option.some.inj ho
            obtain ⟨_, h48, rfl⟩ := given_fed hg 48 (by decide +kernel)
            clear hg
            exact st_yield ho (wanted_none rfl) (.int .i64 ((d : Nat) : Int)) w6 (by simp [execOp, Act.eval, h48, go_sem, hd1]) ⟨_, rfl, Below.refl _ _, by rintro t' ⟨⟩; rfl⟩
          | 10, hin, ho =>
            obtain rfl := Option.some.inj ho
            obtain ⟨_, h43, rfl⟩ := given_fed hg 43 (by decide +kernel)
            obtain ⟨_, h49, rfl⟩ := given_fed hg 49 (by decide +kernel)
            clear hg
            exact st_yield ho (wanted_none rfl) (.pointer (some ⟨g, d, none⟩)) w6 (by simp [execOp, Act.eval, h43, h49, go_sem, hix]) ⟨_, rfl, Below.refl _ _, by rintro t' ⟨⟩; rfl⟩
          | 11, hin, ho =>
            obtain rfl := Option.some.inj ho
            obtain ⟨_, h50, rfl⟩ := given_fed hg 50 (by decide +kernel)
            clear hg
            exact st_yield ho (wanted_none rfl) (.int .u8 (o : Int)) w6 (by simp [execOp, Act.eval, h50, go_sem, ko]) ⟨_, rfl, Below.refl _ _, by rintro t' ⟨⟩; rfl⟩
          | 12, hin, ho =>
            obtain rfl := Option.some.inj ho
            have h1 := given_old hg 1 (by decide +kernel)
            clear hg
            exact st_yield ho (wanted_none rfl) (.int .u64 (x : Int)) w6 (by simp [execOp, Act.eval, h1, go_sem]) ⟨_, rfl, Below.refl _ _, by rintro t' ⟨⟩; rfl⟩
          | 13, hin, ho =>
            obtain rfl := Option.some.inj ho
            have h2 := given_old hg 2 (by decide +kernel)
            clear hg
            exact st_yield ho (wanted_none rfl) (.int .i64 ((k : Nat) : Int)) w6 (by simp [execOp, Act.eval, h2, go_sem]) ⟨_, rfl, Below.refl _ _, by rintro t' ⟨⟩; rfl⟩
          | 14, hin, ho =>
            obtain rfl := Option.some.inj ho
            have h7 := given_old hg 7 (by decide +kernel)
            clear hg
            exact st_yield ho (wanted_none rfl) (.int .i64 ((t : Nat) : Int)) w6 (by simp [execOp, Act.eval, h7, go_sem]) ⟨_, rfl, Below.refl _ _, by rintro t' ⟨⟩; rfl⟩
          | 15, hin, ho =>
            obtain rfl := Option.some.inj ho
            obtain ⟨_, h53, rfl⟩ := given_fed hg 53 (by decide +kernel)
            obtain ⟨_, h54, rfl⟩ := given_fed hg 54 (by decide +kernel)
            clear hg
            exact st_yield ho (wanted_none rfl) (.int .i64 ((kt : Nat) : Int)) w6 (by simp [execOp, Act.eval, h53, h54, go_sem, hkt]) ⟨_, rfl, Below.refl _ _, by rintro t' ⟨⟩; rfl⟩
          | 16, hin, ho =>
            obtain rfl := Option.some.inj ho
            obtain ⟨_, h52, rfl⟩ := given_fed hg 52 (by decide +kernel)
            obtain ⟨_, h55, rfl⟩ := given_fed hg 55 (by decide +kernel)
            clear hg
            exact st_yield ho (wanted_none rfl) (.int .u64 (X : Int)) w6 (by simp [execOp, Act.eval, h52, h55, go_sem, hX]) ⟨_, rfl, Below.refl _ _, by rintro t' ⟨⟩; rfl⟩
          | 17, hin, ho =>
            obtain rfl := Option.some.inj ho
            obtain ⟨_, h56, rfl⟩ := given_fed hg 56 (by decide +kernel)
            clear hg
            exact st_yield ho (wanted_none rfl) (.int .u8 (c1 : Int)) w6 (by simp [execOp, Act.eval, h56, go_sem, hc1]) ⟨_, rfl, Below.refl _ _, by rintro t' ⟨⟩; rfl⟩
          | 18, hin, ho =>
            obtain rfl := Option.some.inj ho
            have h7 := given_old hg 7 (by decide +kernel)
            clear hg
            exact st_yield ho (wanted_none rfl) (.int .i64 ((t : Nat) : Int)) w6 (by simp [execOp, Act.eval, h7, go_sem]) ⟨_, rfl, Below.refl _ _, by rintro t' ⟨⟩; rfl⟩
          | 19, hin, ho =>
            obtain rfl := Option.some.inj ho
            obtain ⟨_, h58, rfl⟩ := given_fed hg 58 (by decide +kernel)
            clear hg
            exact st_yield ho (wanted_none rfl) (.int .i64 ((t8 : Nat) : Int)) w6 (by simp [execOp, Act.eval, h58, go_sem, ht8]) ⟨_, rfl, Below.refl _ _, by rintro t' ⟨⟩; rfl⟩
          | 20, hin, ho =>
            obtain rfl := Option.some.inj ho
            obtain ⟨_, h57, rfl⟩ := given_fed hg 57 (by decide +kernel)
            obtain ⟨_, h59, rfl⟩ := given_fed hg 59 (by decide +kernel)
            clear hg
            exact st_yield ho (wanted_none rfl) (.int .u8 (c2 : Int)) w6 (by simp [execOp, Act.eval, h57, h59, go_sem, hc2]) ⟨_, rfl, Below.refl _ _, by rintro t' ⟨⟩; rfl⟩
          | 21, hin, ho =>
            obtain rfl := Option.some.inj ho
            have h6 := given_old hg 6 (by decide +kernel)
            clear hg
            exact st_yield ho (wanted_none rfl) (.int .i64 ((um : Nat) : Int)) w6 (by simp [execOp, Act.eval, h6, go_sem]) ⟨_, rfl, Below.refl _ _, by rintro t' ⟨⟩; rfl⟩
          | 22, hin, ho =>
            obtain rfl := Option.some.inj ho
            obtain ⟨_, h60, rfl⟩ := given_fed hg 60 (by decide +kernel)
            obtain ⟨_, h61, rfl⟩ := given_fed hg 61 (by decide +kernel)
            clear hg
            exact st_yield ho (wanted_none rfl) (.int .u8 (c3 : Int)) w6 (by simp [execOp, Act.eval, h60, h61, go_sem, hc3i]) ⟨_, rfl, Below.refl _ _, by rintro t' ⟨⟩; rfl⟩
          | 23, hin, ho =>
            obtain rfl := Option.some.inj ho
            obtain ⟨_, h51, rfl⟩ := given_fed hg 51 (by decide +kernel)
            obtain ⟨_, h62, rfl⟩ := given_fed hg 62 (by decide +kernel)
            clear hg
            exact st_yield ho (wanted_none rfl) (.int .u8 (r : Int)) w6 (by simp [execOp, Act.eval, h51, h62, go_sem, hr]) ⟨_, rfl, Below.refl _ _, by rintro t' ⟨⟩; rfl⟩
          | 24, hin, ho =>
            obtain rfl := Option.some.inj ho
            obtain ⟨_, h43, rfl⟩ := given_fed hg 43 (by decide +kernel)
            obtain ⟨_, h49, rfl⟩ := given_fed hg 49 (by decide +kernel)
            clear hg
            exact st_yield ho (wanted_none rfl) (.pointer (some ⟨g, d, none⟩)) w6 (by simp [execOp, Act.eval, h43, h49, go_sem, hix]) ⟨_, rfl, Below.refl _ _, by rintro t' ⟨⟩; rfl⟩
          | n + 25, hin, ho => omega
        · intro f w6 hb6 hv
          have h63 := hv 63 (by decide)
          have h64 := hv 64 (by decide)
          simp only [V6] at h63 h64
          have ko := (hb6.cell (p := ⟨g, d, none⟩) hgs).trans KO
          have kf := (hb6.frozen (p := ⟨g, d, none⟩) hgs).trans HKF.out
          have hne : g ≠ b := fun e => HBB.out.apart (by rw [e]; rfl)
          have kc1 : (w6.setCell ⟨g, d, none⟩ (.int .u8 (r : Int))).cell? ⟨b, 1, none⟩ = some (.int .i64 (m.length : Int)) := by
            rw [World.cell?_setCell_other _ _ _ _ (fun e => hne (congrArg Addr.block e))]
            exact (hb6.cell (p := ⟨b, 1, none⟩) HB).trans K1
          have kf1 : (w6.setCell ⟨g, d, none⟩ (.int .u8 (r : Int))).frozen? ⟨b, 1, none⟩ = false := by
            rw [World.frozen?_setCell]
            exact (hb6.frozen (p := ⟨b, 1, none⟩) HB).trans F1
          have hfin := put_close (X := X) (t := t) (r := r) htwo hown htwo2 hown2 HBB.out hb6 ht0 (by rw [Hu.out]; exact hut) (by rw [Er2.out, Hu.out, Hd.out]) _ Hmt.out
          rw [Hd.out] at hfin
          have Hfin := Go.Lib.hid hfin; clear hfin htwo hown htwo2 hown2 hbt
          clear hv K0 KO K1 F1 hr hc3i hc2 hc1 hX ht8 hd1 hix hne
          unfold putAll
          simp only [List.foldl, List.drop]
          simp only [h63, h64]
          go_simp
          go_wp2_with fail
          obtain ⟨u', h1, h2, h3⟩ := Hfin.out
          have hkk := Ekt.out
          have hxx := EX.out
          refine ⟨⟨kt, m ++ numB X t, u', by omega, rfl, ?_, h1, h2, h3⟩, by simp only [intOf]; omega⟩
          rw [List.append_assoc, hxx, hkk, ← numB_take x k t htk]
          exact Hm.out
    · obtain rfl : k = 0 := by omega
      rw [show numB x 0 = [] from rfl, List.append_nil] at hm
      have Hfin : Hid (∃ v', BT wr B b v' (l ++ numB x n) ∧ Two b v.ownBlock w wr ∧ (v'.ownBlock = v.ownBlock ∨ ∀ k, v'.ownBlock = some k → w.heap.size ≤ k)) := ⟨u, by rw [← hm]; exact hbt, htwo, hown⟩
      clear hm hbt htwo hown
      go_wp2_with fail
      go_end0
      exact ⟨rfl, Hfin.out⟩

end Go.Proofs.Ytibbligidncocaa

namespace Go.Proofs.Ytibbligidncocaa
open Go.RowKit

set_option maxRecDepth 100000 in
theorem len_nil (w : World) : Calls Try.prog 104 #[.pointer none] w fun e w' => e = .returned (.int .i64 0) ∧ w = w' := by
  go_enter Try.func104, Try.ntmps104
  go_wp2_with fail
  go_ret
  exact ⟨rfl, rfl⟩
set_option maxRecDepth 100000 in
theorem len_c (w : World) (B b : Nat) (v : Value) (p : List UInt8) (n : Nat) (h : BB w B b v p n) : Calls Try.prog 104 #[.pointer (some ⟨b, 0, none⟩)] w fun e w' => e = .returned (.int .i64 (n : Int)) ∧ w = w' := by
  have hc1 := h.c1
  clear h
  go_enter Try.func104, Try.ntmps104
  go_wp2_with fail
  go_ret
  exact ⟨rfl, rfl⟩

set_option maxRecDepth 100000 in
theorem num_nil (a n : Int) (w : World) : Calls Try.prog 105 #[.pointer none, .int .i64 a, .int .i64 n] w fun e w' => e = .returned (.tuple #[.int .u64 0, .bool false]) ∧ w = w' := by
  go_enter Try.func105, Try.ntmps105
  go_wp2_with fail
  go_ret2
  exact ⟨rfl, rfl⟩

set_option maxRecDepth 100000 in
/-- They are not all there. -/
theorem num_no (a n : Int) (w : World) (B b : Nat) (v : Value) (l : List Bool) (h : BT w B b v l) (hl : l.length ≤ 562949953421312) (hno : n < 0 ∨ 64 < n ∨ a < 0 ∨ (l.length : Int) - n < a) :
    Calls Try.prog 105 #[.pointer (some ⟨b, 0, none⟩), .int .i64 a, .int .i64 n] w fun e w' => e = .returned (.tuple #[.int .u64 0, .bool false]) ∧ w = w' := by
  have hc1 := h.c1
  clear h
  by_cases h1 : n < 0
  · go_enter Try.func105, Try.ntmps105
    go_wp2_with fail
    go_ret2
    exact ⟨rfl, rfl⟩
  by_cases h2 : 64 < n
  · go_enter Try.func105, Try.ntmps105
    go_wp2_with fail
    go_ret2
    exact ⟨rfl, rfl⟩
  by_cases h3 : a < 0
  · go_enter Try.func105, Try.ntmps105
    go_wp2_with fail
    go_ret2
    exact ⟨rfl, rfl⟩
  have h4 : (l.length : Int) - n < a := by omega
  clear hno
  go_enter Try.func105, Try.ntmps105
  go_wp2_with fail
  go_ret2
  exact ⟨rfl, rfl⟩

def V7 (b g rl cap d o t um t8 at_ X0 X1 c1 c2 X2 : Nat) : Nat → World → Value → Prop
  | 43, _, v => v = .int .u64 (X0 : Int)
  | 44, _, v => v = .int .i64 (t : Int)
  | 45, _, v => v = .int .u64 (X1 : Int)
  | 46, _, v => v = .pointer (some ⟨b, 0, none⟩)
  | 47, _, v => v = .pointer (some ⟨b, 0, none⟩)
  | 48, _, v => v = .pointer (some ⟨b, 0, none⟩)
  | 49, _, v => v = .slice (some ⟨g, 0, none⟩) rl cap
  | 50, _, v => v = .int .i64 (at_ : Int)
  | 51, _, v => v = .int .i64 (d : Int)
  | 52, _, v => v = .pointer (some ⟨g, d, none⟩)
  | 53, _, v => v = .int .u8 (o : Int)
  | 54, _, v => v = .int .i64 (um : Int)
  | 55, _, v => v = .int .u8 (c1 : Int)
  | 56, _, v => v = .int .i64 (t : Int)
  | 57, _, v => v = .int .i64 (t8 : Int)
  | 58, _, v => v = .int .u8 (c2 : Int)
  | 59, _, v => v = .int .u64 (c2 : Int)
  | 60, _, v => v = .int .u64 (X2 : Int)
  | 8, _, v => v = .int .u64 (X2 : Int)
  | _, _, _ => True

theorem V7_below (b g rl cap d o t um t8 at_ X0 X1 c1 c2 X2 : Nat) : ∀ (i : Nat) (w w' : World) (v : Value), V7 b g rl cap d o t um t8 at_ X0 X1 c1 c2 X2 i w v → Below w.heap.size w w' → V7 b g rl cap d o t um t8 at_ X0 X1 c1 c2 X2 i w' v := by
  intro i w w' v h hb
  unfold V7 at h ⊢
  split at h <;> first | exact h | trivial | exact RB.below h hb | exact Own.below h hb

set_option maxHeartbeats 2000000 in
set_option maxRecDepth 100000 in
theorem num_c (a n : Nat) (w : World) (B b : Nat) (v : Value) (l : List Bool) (h : BT w B b v l) (hl : l.length ≤ 562949953421312) (hn : n ≤ 64) (ha : a + n ≤ l.length) :
    Calls Try.prog 105 #[.pointer (some ⟨b, 0, none⟩), .int .i64 (a : Int), .int .i64 (n : Int)] w fun e w' => e = .returned (.tuple #[.int .u64 (val ((l.drop a).take n) : Int), .bool true]) ∧ Below w.heap.size w w' := by
  have hc1 := h.c1
  have h4 : ¬ ((l.length : Int) - (n : Int) < (a : Int)) := by omega
  have H := Go.Lib.hid h
  clear h
  go_enter Try.func105, Try.ntmps105
  go_wp2_with fail
  go_loopw [1, 2, 8] (fun a' n' x wr => ∃ (j k : Nat), j + k = n ∧ a' = .int .i64 ((a + j : Nat) : Int) ∧ n' = .int .i64 (k : Int) ∧ x = .int .u64 (val ((l.drop a).take j) : Int) ∧ Below w.heap.size w wr) (fun _ n' _ _ => (intOf n').toNat)
  case atStart => exact ⟨0, n, by omega, rfl, rfl, rfl, Below.refl _ _⟩
  case round =>
    obtain ⟨j, k, hjk, rfl, rfl, rfl, hbw⟩ := hrel
    by_cases hlt : 0 < k
    · have hbt : BT wr B b v l := H.out.below hbw
      have hpl : 0 < (pack l).length := by rw [pack_length]; omega
      obtain ⟨g, cap, rfl, hBg, hgs, hcl, hcm, hgf⟩ := hbt.row.form hpl
      obtain ⟨t, ht⟩ : ∃ t : Nat, t = min k (8 - (a + j) % 8) := ⟨_, rfl⟩
      obtain ⟨at_, hat⟩ : ∃ q : Nat, q = a + j := ⟨_, rfl⟩
      have hd : at_ / 8 < (pack l).length := by rw [pack_length]; omega
      have HB := hbt.lt
      have HG := hgs
      have K0 := hbt.c0
      have KO := hbt.row.cell (at_ / 8) hd
      rw [← hat] at ht ⊢
      have htI : min (k : Int) (8 - (at_ : Int) % 8) = (t : Int) := by omega
      have Ht := Go.Lib.hid ht; clear ht
      have Hat := Go.Lib.hid hat; clear hat
      have HK0 := Go.Lib.hid K0; clear K0
      have HKO := Go.Lib.hid KO; clear KO
      have Hjk := Go.Lib.hid hjk; clear hjk
      have hat63 : at_ ≤ 562949953421312 := by have := Hat.out; have := Hjk.out; omega
      clear hbt hcl hcm hgf hpl
      generalize hx0 : val ((l.drop a).take j) = X0
      have Hx0 := Go.Lib.hid hx0; clear hx0
      go_upto_region 7 with (fail)
      have hu : (at_ : Int) % 8 = ((at_ % 8 : Nat) : Int) := by omega
      rw [hu]
      clear hu hc1
      have K0 := HK0.out
      have KO := HKO.out
      have hix := run_idx8 g (pack l).length cap (at_ / 8) hd
      have ht0 : 0 < t ∧ at_ % 8 + t ≤ 8 ∧ t ≤ k ∧ t ≤ 8 := by have := Ht.out; omega
      obtain ⟨ht0, hut, htk, ht8'⟩ := ht0
      obtain ⟨t8, et8⟩ : ∃ q : Nat, q = 8 - t := ⟨_, rfl⟩
      have ht8 : IntKind.i64.wrap (8 - (t : Int)) = (t8 : Int) := by rw [IntKind.wrap_i64]; omega
      have hpiece := pack_piece l at_ t hut (by have := Hat.out; have := Hjk.out; omega) ht0 hd
      have hval : val ((l.drop a).take (j + t)) = X0 * 2 ^ t + val ((l.drop at_).take t) := by
        have hA := Hat.out
        have hJ := Hjk.out
        have hl1 : ((l.drop (a + j)).take t).length = t := by simp only [List.length_take, List.length_drop]; omega
        rw [← take_more, val_append, Hx0.out, hl1, ← hA]
      have hlt0 : X0 < 2 ^ j := by
        have h1 := val_lt ((l.drop a).take j)
        rw [Hx0.out] at h1
        exact Nat.lt_of_lt_of_le h1 (Nat.pow_le_pow_right (by omega) (by simp only [List.length_take]; omega))
      have hc2l := val_lt ((l.drop at_).take t)
      have hc2t : ((l.drop at_).take t).length ≤ t := by simp only [List.length_take]; omega
      obtain ⟨c2, ec2⟩ : ∃ q : Nat, q = val ((l.drop at_).take t) := ⟨_, rfl⟩
      have hc2u : c2 < 2 ^ t := by rw [ec2]; exact Nat.lt_of_lt_of_le hc2l (Nat.pow_le_pow_right (by omega) hc2t)
      obtain ⟨X1, eX1⟩ : ∃ q : Nat, q = X0 * 2 ^ t := ⟨_, rfl⟩
      have hX1 : X1 < 18446744073709551616 := by
        have h1 : X1 < 2 ^ j * 2 ^ t := by rw [eX1]; exact Nat.mul_lt_mul_of_pos_right hlt0 (Nat.pow_pos (by omega))
        rw [← Nat.pow_add] at h1
        exact Nat.lt_of_lt_of_le h1 (Nat.le_trans (Nat.pow_le_pow_right (by omega) (show j + t ≤ 64 by have := Hjk.out; omega)) (by decide))
      have hX2 : X1 ||| c2 = val ((l.drop a).take (j + t)) := by rw [hval, eX1, or_val _ _ _ hc2u, ec2]
      have hc2b : c2 < 18446744073709551616 := Nat.lt_of_lt_of_le hc2u (Nat.le_trans (Nat.pow_le_pow_right (by omega) (show t ≤ 64 by omega)) (by decide))
      have hr := u64_or_nat X1 c2 hX1 hc2b
      rw [hX2] at hr
      have hx1 : IntKind.u64.wrap ((X0 : Int) * 2 ^ t) = (X1 : Int) := by
        have e : (X0 : Int) * 2 ^ t = (X1 : Int) := by rw [eX1]; simp
        rw [e, IntKind.wrap_u64]
        omega
      have hcv : IntKind.u64.wrap (c2 : Int) = (c2 : Int) := by rw [IntKind.wrap_u64]; omega
      rw [← et8, ← ec2] at hpiece
      have hq : (at_ : Int) / 8 = ((at_ / 8 : Nat) : Int) := by omega
      have hqw : IntKind.i64.wrap ((at_ / 8 : Nat) : Int) = ((at_ / 8 : Nat) : Int) := by rw [IntKind.wrap_i64]; omega
      have ho : (pack l)[at_ / 8].toNat < 256 := UInt8.toNat_lt _
      generalize (pack l)[at_ / 8].toNat = o at KO hpiece ho
      obtain ⟨c1, ec1⟩ : ∃ q : Nat, q = o * 2 ^ (at_ % 8) % 256 := ⟨_, rfl⟩
      rw [← ec1] at hpiece
      have hc1 : IntKind.u8.wrap ((o : Int) * 2 ^ (at_ % 8)) = (c1 : Int) := by
        have e : (o : Int) * 2 ^ (at_ % 8) = ((o * 2 ^ (at_ % 8) : Nat) : Int) := by simp
        rw [e, IntKind.wrap_u8', ec1]
        omega
      have hc2i : (c1 : Int) / 2 ^ min t8 8 = (c2 : Int) := by rw [Nat.min_eq_left (by omega), ← hpiece]; simp
      obtain ⟨X2, eX2⟩ : ∃ q : Nat, q = val ((l.drop a).take (j + t)) := ⟨_, rfl⟩
      rw [← eX2] at hr
      have EX2 := Go.Lib.hid eX2
      clear eX2 hpiece ec1 ho hX2 hc2b hX1 eX1 hc2u ec2 hc2t hc2l hlt0 hval et8 hat63
      generalize at_ / 8 = d at *
      generalize at_ % 8 = um at *
      clear HKO HK0
      generalize (pack l).length = rl at K0 hix
      refine wp_region_each (by kernel_rfl) (V7 b g rl cap d o t um t8 at_ X0 X1 c1 c2 X2) (V7_below b g rl cap d o t um t8 at_ X0 X1 c1 c2 X2) (by decide +kernel) (by decide +kernel) (by rfl) [43, 44, 45, 46, 47, 48, 49, 50, 51, 52, 53, 54, 55, 56, 57, 58, 59, 60, 8] (by rfl) ?_ ?_
      · intro i o ho a w6 hb6 hlen hg
        have k0 := (hb6.cell (p := ⟨b, 0, none⟩) HB).trans K0
        have ko := (hb6.cell (p := ⟨g, d, none⟩) HG).trans KO
        match i, ho with
        | 0, ho =>
          obtain rfl := Option.some.inj ho
          have h8 := given_old hg 8 (by decide +kernel)
          clear hg
          exact st_yield ho (wanted_none rfl) (.int .u64 (X0 : Int)) w6 (by simp [execOp, Act.eval, h8, go_sem]) ⟨_, rfl, Below.refl _ _, by rintro t' ⟨⟩; rfl⟩
        | 1, ho =>
          obtain rfl := Option.some.inj ho
          have h10 := given_old hg 10 (by decide +kernel)
          clear hg
          exact st_yield ho (wanted_none rfl) (.int .i64 (t : Int)) w6 (by simp [execOp, Act.eval, h10, go_sem]) ⟨_, rfl, Below.refl _ _, by rintro t' ⟨⟩; rfl⟩
        | 2, ho =>
          obtain rfl := Option.some.inj ho
          obtain ⟨_, h43, rfl⟩ := given_fed hg 43 (by decide +kernel)
          obtain ⟨_, h44, rfl⟩ := given_fed hg 44 (by decide +kernel)
          clear hg
          exact st_yield ho (wanted_none rfl) (.int .u64 (X1 : Int)) w6 (by simp [execOp, Act.eval, h43, h44, go_sem, hx1]) ⟨_, rfl, Below.refl _ _, by rintro t' ⟨⟩; rfl⟩
        | 3, ho =>
          obtain rfl := Option.some.inj ho
          have h0 := given_old hg 0 (by decide +kernel)
          clear hg
          exact st_yield ho (wanted_none rfl) (.pointer (some ⟨b, 0, none⟩)) w6 (by simp [execOp, Act.eval, h0, go_sem]) ⟨_, rfl, Below.refl _ _, by rintro t' ⟨⟩; rfl⟩
        | 4, ho =>
          obtain rfl := Option.some.inj ho
          obtain ⟨_, h46, rfl⟩ := given_fed hg 46 (by decide +kernel)
          clear hg
          exact st_yield ho (wanted_none rfl) (.pointer (some ⟨b, 0, none⟩)) w6 (by simp [execOp, Act.eval, h46, go_sem]) ⟨_, rfl, Below.refl _ _, by rintro t' ⟨⟩; rfl⟩
        | 5, ho =>
          obtain rfl := Option.some.inj ho
          obtain ⟨_, h47, rfl⟩ := given_fed hg 47 (by decide +kernel)
          clear hg
          exact st_yield ho (wanted_none rfl) (.pointer (some ⟨b, 0, none⟩)) w6 (by simp [execOp, Act.eval, h47, go_sem]) ⟨_, rfl, Below.refl _ _, by rintro t' ⟨⟩; rfl⟩
        | 6, ho =>
          obtain rfl := Option.some.inj ho
          obtain ⟨_, h48, rfl⟩ := given_fed hg 48 (by decide +kernel)
          clear hg
          exact st_yield ho (wanted_none rfl) (.slice (some ⟨g, 0, none⟩) rl cap) w6 (by simp [execOp, Act.eval, h48, go_sem, k0]) ⟨_, rfl, Below.refl _ _, by rintro t' ⟨⟩; rfl⟩
        | 7, ho =>
          obtain rfl := Option.some.inj ho
          have h1 := given_old hg 1 (by decide +kernel)
          clear hg
          exact st_yield ho (wanted_none rfl) (.int .i64 (at_ : Int)) w6 (by simp [execOp, Act.eval, h1, go_sem]) ⟨_, rfl, Below.refl _ _, by rintro t' ⟨⟩; rfl⟩
        | 8, ho =>
          obtain rfl := Option.some.inj ho
          obtain ⟨_, h50, rfl⟩ := given_fed hg 50 (by decide +kernel)
          clear hg
          exact st_yield ho (wanted_none rfl) (.int .i64 (d : Int)) w6 (by simp [execOp, Act.eval, h50, go_sem, hq, hqw]) ⟨_, rfl, Below.refl _ _, by rintro t' ⟨⟩; rfl⟩
        | 9, ho =>
          obtain rfl := Option.some.inj ho
          obtain ⟨_, h49, rfl⟩ := given_fed hg 49 (by decide +kernel)
          obtain ⟨_, h51, rfl⟩ := given_fed hg 51 (by decide +kernel)
          clear hg
          exact st_yield ho (wanted_none rfl) (.pointer (some ⟨g, d, none⟩)) w6 (by simp [execOp, Act.eval, h49, h51, go_sem, hix]) ⟨_, rfl, Below.refl _ _, by rintro t' ⟨⟩; rfl⟩
        | 10, ho =>
          obtain rfl := Option.some.inj ho
          obtain ⟨_, h52, rfl⟩ := given_fed hg 52 (by decide +kernel)
          clear hg
          exact st_yield ho (wanted_none rfl) (.int .u8 (o : Int)) w6 (by simp [execOp, Act.eval, h52, go_sem, ko]) ⟨_, rfl, Below.refl _ _, by rintro t' ⟨⟩; rfl⟩
        | 11, ho =>
          obtain rfl := Option.some.inj ho
          have h9 := given_old hg 9 (by decide +kernel)
          clear hg
          exact st_yield ho (wanted_none rfl) (.int .i64 (um : Int)) w6 (by simp [execOp, Act.eval, h9, go_sem]) ⟨_, rfl, Below.refl _ _, by rintro t' ⟨⟩; rfl⟩
        | 12, ho =>
          obtain rfl := Option.some.inj ho
          obtain ⟨_, h53, rfl⟩ := given_fed hg 53 (by decide +kernel)
          obtain ⟨_, h54, rfl⟩ := given_fed hg 54 (by decide +kernel)
          clear hg
          exact st_yield ho (wanted_none rfl) (.int .u8 (c1 : Int)) w6 (by simp [execOp, Act.eval, h53, h54, go_sem, hc1]) ⟨_, rfl, Below.refl _ _, by rintro t' ⟨⟩; rfl⟩
        | 13, ho =>
          obtain rfl := Option.some.inj ho
          have h10 := given_old hg 10 (by decide +kernel)
          clear hg
          exact st_yield ho (wanted_none rfl) (.int .i64 (t : Int)) w6 (by simp [execOp, Act.eval, h10, go_sem]) ⟨_, rfl, Below.refl _ _, by rintro t' ⟨⟩; rfl⟩
        | 14, ho =>
          obtain rfl := Option.some.inj ho
          obtain ⟨_, h56, rfl⟩ := given_fed hg 56 (by decide +kernel)
          clear hg
          exact st_yield ho (wanted_none rfl) (.int .i64 (t8 : Int)) w6 (by simp [execOp, Act.eval, h56, go_sem, ht8]) ⟨_, rfl, Below.refl _ _, by rintro t' ⟨⟩; rfl⟩
        | 15, ho =>
          obtain rfl := Option.some.inj ho
          obtain ⟨_, h55, rfl⟩ := given_fed hg 55 (by decide +kernel)
          obtain ⟨_, h57, rfl⟩ := given_fed hg 57 (by decide +kernel)
          clear hg
          exact st_yield ho (wanted_none rfl) (.int .u8 (c2 : Int)) w6 (by simp [execOp, Act.eval, h55, h57, go_sem, hc2i]) ⟨_, rfl, Below.refl _ _, by rintro t' ⟨⟩; rfl⟩
        | 16, ho =>
          obtain rfl := Option.some.inj ho
          obtain ⟨_, h58, rfl⟩ := given_fed hg 58 (by decide +kernel)
          clear hg
          exact st_yield ho (wanted_none rfl) (.int .u64 (c2 : Int)) w6 (by simp [execOp, Act.eval, h58, go_sem, hcv]) ⟨_, rfl, Below.refl _ _, by rintro t' ⟨⟩; rfl⟩
        | 17, ho =>
          obtain rfl := Option.some.inj ho
          obtain ⟨_, h45, rfl⟩ := given_fed hg 45 (by decide +kernel)
          obtain ⟨_, h59, rfl⟩ := given_fed hg 59 (by decide +kernel)
          clear hg
          exact st_yield ho (wanted_none rfl) (.int .u64 (X2 : Int)) w6 (by simp [execOp, Act.eval, h45, h59, go_sem, hr]) ⟨_, rfl, Below.refl _ _, by rintro t' ⟨⟩; rfl⟩
        | 18, ho =>
          obtain rfl := Option.some.inj ho
          obtain ⟨_, h60, rfl⟩ := given_fed hg 60 (by decide +kernel)
          clear hg
          exact st_yield ho (wanted_none rfl) (.int .u64 (X2 : Int)) w6 (by simp [execOp, Act.eval, h60, go_sem]) ⟨_, rfl, Below.refl _ _, by rintro t' ⟨⟩; rfl⟩
        | n + 19, ho => simp at ho
      · intro f w6 hb6 hv
        have h8 := hv 8 (by decide)
        simp only [V7] at h8
        have hbw6 := hbw.trans (hb6.mono hbw.size)
        have hk64 : k ≤ 64 := by have := Hjk.out; omega
        have hat63 : at_ + t ≤ 1000000000000000 := by have := Hat.out; have := Hjk.out; omega
        clear hv K0 KO hr hcv hc2i hc1 hqw hq hx1 ht8 hix hb6 h4
        unfold putAll
        simp only [List.foldl]
        simp only [h8]
        go_simp
        go_wp2_with fail
        go_roundw
        case rel => exact ⟨j + t, k - t, by have := Hjk.out; omega, (by have := Hat.out; congr 1; omega), (by congr 1; omega), by rw [EX2.out], hbw6⟩
        case measure => simp only [intOf]; omega
    · obtain rfl : k = 0 := by omega
      obtain rfl : j = n := by omega
      clear hc1 h4
      go_wp2_with fail
      go_ret2
      exact ⟨rfl, hbw⟩

end Go.Proofs.Ytibbligidncocaa
