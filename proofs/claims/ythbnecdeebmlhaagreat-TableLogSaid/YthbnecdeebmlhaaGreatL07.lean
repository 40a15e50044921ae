/-
  The contracts of bits: PutNum.
  The contracts of bits: Put, Len, Num.
  The contract of bits: At.
  The contracts of bits: Bytes; bytes.Clone.
  The contracts of bits: Of.
  Stage 19, mathematics: a table's bytes, and what is read of bytes.
  Small numbers as bits; how many bits are set: mathematics alone.
  How many bits are set, at any whole number: mathematics alone.
  Stage 20, mathematics: a table's records in the order of its slots; those of a bucket; those alike to a key; a table's beginning.
  Records that were cut; the reference's May of one.
  Stage 19, mathematics: records laid into a table by turns.
  What lies apart: rows of other types, a *bits.Bits, slices that came in.
-/
import Derived.Test.YthbnecdeebmlhaaGreatL06
import Derived.Test.YthbnecdeebmlhaaGreatL04
import Derived.Laws.BitsAllLaws
import Derived.Deep.DeepCutAuto
import Derived.Deep.QuietTactic
import Derived.BigQuiet
import Derived.Lib.SliceRun
import Derived.Test.YthbnecdeebmlhaaGreatL05
import Derived.Test.YthbnecdeebmlhaaGreatL01
namespace Go.Proofs.YthbnecdeebmlhaaGreat
open Go.RowKit

set_option maxRecDepth 100000 in
theorem putNum_nil (x n : Int) (w : World) : Calls Tryz.prog 72 #[.pointer none, .int .u64 x, .int .i64 n] w fun e w' => e = .returned (.tuple #[]) ∧ w = w' := by
  go_enter Tryz.func72, Tryz.ntmps72
  go_wp2
  refine bodyPost_ret (results_none rfl _ _ _) rfl ?_
  exact ⟨rfl, rfl⟩

def V6 (b g rl cap d o x k t kt X c1 t8 c2 um c3 r : Nat) : Nat → World → Value → Prop
  | 40, _, v => v = .pointer (some ⟨b, 0, none⟩)
  | 41, _, v => v = .pointer (some ⟨b, 0, none⟩)
  | 42, _, v => v = .pointer (some ⟨b, 0, none⟩)
  | 43, _, v => v = .slice (some ⟨g, 0, none⟩) rl cap
  | 44, _, v => v = .pointer (some ⟨b, 0, none⟩)
  | 45, _, v => v = .pointer (some ⟨b, 0, none⟩)
  | 46, _, v => v = .pointer (some ⟨b, 0, none⟩)
  | 47, _, v => v = .slice (some ⟨g, 0, none⟩) rl cap
  | 48, _, v => v = .int .i64 ((rl : Nat) : Int)
  | 49, _, v => v = .int .i64 ((d : Nat) : Int)
  | 50, _, v => v = .pointer (some ⟨g, d, none⟩)
  | 51, _, v => v = .int .u8 (o : Int)
  | 52, _, v => v = .int .u64 (x : Int)
  | 53, _, v => v = .int .i64 ((k : Nat) : Int)
  | 54, _, v => v = .int .i64 ((t : Nat) : Int)
  | 55, _, v => v = .int .i64 ((kt : Nat) : Int)
  | 56, _, v => v = .int .u64 (X : Int)
  | 57, _, v => v = .int .u8 (c1 : Int)
  | 58, _, v => v = .int .i64 ((t : Nat) : Int)
  | 59, _, v => v = .int .i64 ((t8 : Nat) : Int)
  | 60, _, v => v = .int .u8 (c2 : Int)
  | 61, _, v => v = .int .i64 ((um : Nat) : Int)
  | 62, _, v => v = .int .u8 (c3 : Int)
  | 63, _, v => v = .int .u8 (r : Int)
  | 64, _, v => v = .pointer (some ⟨g, d, none⟩)
  | _, _, _ => True

theorem V6_below (b g rl cap d o x k t kt X c1 t8 c2 um c3 r : Nat) : ∀ (i : Nat) (w w' : World) (v : Value), V6 b g rl cap d o x k t kt X c1 t8 c2 um c3 r i w v → Below w.heap.size w w' → V6 b g rl cap d o x k t kt X c1 t8 c2 um c3 r i w' v := by
  intro i w w' v h hb
  unfold V6 at h ⊢
  split at h <;> first | exact h | trivial | exact RB.below h hb | exact Own.below h hb

theorem run_idx8 (g n cap j : Nat) (h : j < n) (W : World) : (Instr.indexAt 47 (.slice (some ⟨g, 0, none⟩) n cap) (.int .i64 (j : Int))).run Tryz.prog W = .ok (.pointer (some ⟨g, j, none⟩)) W := by
  obtain ⟨i, hi, -, hsize, -⟩ := info_parts info8
  have he : Tryz.prog.elem 47 = 5 := by kernel_rfl
  have hs : (sizeOf 5).run Tryz.prog W = .ok 1 W := by simp [sizeOf, typeInfo, hi, hsize]
  have hadd : (⟨g, 0, none⟩ : Addr).add j = ⟨g, j, none⟩ := by unfold Addr.add; split <;> simp_all
  rw [run_indexAt_slice W _ _ _ _ _ _ (by rw [he]; exact Tryz.underlying47), if_pos ⟨by omega, by omega⟩, he, hs]
  simp [Result.andThen, hadd]

theorem shr_nat (k yk : IntKind) (x y : Nat) (h : (y : Int) ≤ k.bits) : Op.shift .shr k (x : Int) yk (y : Int) = pure (.int k ((x / 2 ^ y : Nat) : Int)) := by
  rw [shift_shr _ _ _ _ (by omega) h, Int.toNat_natCast]
  simp
theorem shl_nat (k yk : IntKind) (x y : Nat) (h : (y : Int) ≤ k.bits) : Op.shift .shl k (x : Int) yk (y : Int) = pure (.int k (k.wrap ((x * 2 ^ y : Nat) : Int))) := by
  rw [shift_shl _ _ _ _ (by omega) h, Int.toNat_natCast]
  simp
/-- What the walk reckons of a piece. -/
theorem put_nums (o X t u : Nat) (ho : o < 256) (hut : u + t ≤ 8) :
    X % 256 * 2 ^ (8 - t) % 256 / 2 ^ u = X % 2 ^ t * 2 ^ (8 - t) / 2 ^ u ∧ bits .or .u8 (o : Int) ((X % 2 ^ t * 2 ^ (8 - t) / 2 ^ u : Nat) : Int) = ((putByte o (X % 2 ^ t) t u : Nat) : Int) := by
  have e : 256 = 2 ^ t * 2 ^ (8 - t) := by rw [← Nat.pow_add, show t + (8 - t) = 8 from by omega]
  have h1 : X % 256 * 2 ^ (8 - t) % 256 = X % 2 ^ t * 2 ^ (8 - t) := by
    have : X % 256 % 2 ^ t = X % 2 ^ t := by rw [e, Nat.mod_mul_right_mod]
    rw [← this]
    generalize X % 256 = Y
    rw [e, Nat.mul_mod_mul_right]
  refine ⟨by rw [h1], ?_⟩
  have h2 : X % 2 ^ t * 2 ^ (8 - t) / 2 ^ u < 256 := by
    refine Nat.lt_of_le_of_lt (Nat.div_le_self _ _) ?_
    rw [e]
    exact Nat.mul_lt_mul_of_pos_right (Nat.mod_lt _ (Nat.pow_pos (by omega))) (Nat.pow_pos (by omega))
  rw [u8_or_nat _ _ ho h2]
  rfl

/-- A round of PutNum: what it leaves. -/
theorem put_close {w wr wc w6 : World} {B b : Nat} {v u : Value} {g cap : Nat} {m : List Bool} {X t r : Nat} (htwo : Two b v.ownBlock w wr) (hown : u.ownBlock = v.ownBlock ∨ ∀ k, u.ownBlock = some k → w.heap.size ≤ k)
    (htwo2 : Two b u.ownBlock wr wc) (hown2 : (Value.slice (some ⟨g, 0, none⟩) (room m).length cap).ownBlock = u.ownBlock ∨ ∀ k, (Value.slice (some ⟨g, 0, none⟩) (room m).length cap).ownBlock = some k → wr.heap.size ≤ k)
    (hbb : BB wc B b (.slice (some ⟨g, 0, none⟩) (room m).length cap) (room m) m.length) (hb6 : Below wc.heap.size wc w6) (ht0 : 0 < t) (hut : m.length % 8 + t ≤ 8)
    (hr : r = putByte ((room m).getD (m.length / 8) 0).toNat (X % 2 ^ t) t (m.length % 8)) (y : Int) (hy : y = ((m.length + t : Nat) : Int)) :
    ∃ u', BT ((w6.setCell ⟨g, m.length / 8, none⟩ (.int .u8 (r : Int))).setCell ⟨b, 1, none⟩ (.int .i64 y)) B b u' (m ++ numB X t) ∧ Two b v.ownBlock w ((w6.setCell ⟨g, m.length / 8, none⟩ (.int .u8 (r : Int))).setCell ⟨b, 1, none⟩ (.int .i64 y)) ∧
      (u'.ownBlock = v.ownBlock ∨ ∀ k, u'.ownBlock = some k → w.heap.size ≤ k) := by
  have hc : (numB X t).length = t := numB_length X t
  have hlt : r < 256 := by rw [hr]; exact putByte_lt _ _ _ _ (UInt8.toNat_lt _) (Nat.mod_lt _ (Nat.pow_pos (by omega))) (by omega)
  have hpm := pack_more m (numB X t) (by rw [hc]; exact hut) (by rw [hc]; exact ht0)
  rw [hc, val_numB, ← hr] at hpm
  have h1 := ((hbb.below hb6).put (m.length / 8) (UInt8.ofNat r) (r : Int) (by rw [ofNat_val r hlt])).count (m.length + t) y hy
  rw [← hpm] at h1
  have hrow : ∀ j, (Value.slice (some ⟨g, 0, none⟩) (room m).length cap).ownBlock = some j → u.ownBlock = some j ∨ wr.heap.size ≤ j := fun j hj => by
    rcases hown2 with h | h
    · exact .inl (h.symm.trans hj)
    · exact .inr (h j hj)
  have hu : ∀ j, u.ownBlock = some j → v.ownBlock = some j ∨ w.heap.size ≤ j := fun j hj => by
    rcases hown with h | h
    · exact .inl (h.symm.trans hj)
    · exact .inr (h j hj)
  refine ⟨.slice (some ⟨g, 0, none⟩) (room m).length cap, ?_, (((htwo.trans htwo2 hu).trans (Two.of_below (r := none) hb6) (fun j hj => by cases hj)).set (p := ⟨g, m.length / 8, none⟩) ?_ _).set (p := ⟨b, 1, none⟩) (.inl rfl) _, ?_⟩
  · have e : (m ++ numB X t).length = m.length + t := by rw [List.length_append, hc]
    show BB _ _ _ _ _ _
    rw [e]
    exact h1
  · right
    rcases hrow g rfl with h | h
    · rcases hu g h with h' | h'
      · exact .inl h'.symm
      · exact .inr h'
    · exact .inr (Nat.le_trans htwo.size h)
  · rcases hown2 with h | h
    · rcases hown with h' | h'
      · exact .inl (h.trans h')
      · exact .inr fun j hj => h' j (h.symm.trans hj)
    · exact .inr fun j hj => Nat.le_trans htwo.size (h j hj)

set_option maxRecDepth 100000 in
theorem putNum_c (x : Nat) (n : Nat) (w : World) (B b : Nat) (v : Value) (l : List Bool) (h : BT w B b v l) (hn : n ≤ 64) (hl : l.length + n ≤ 562949953421312) :
    Calls Tryz.prog 72 #[.pointer (some ⟨b, 0, none⟩), .int .u64 (x : Int), .int .i64 (n : Int)] w fun e w' => e = .returned (.tuple #[]) ∧
      ∃ v', BT w' B b v' (l ++ numB x n) ∧ Two b v.ownBlock w w' ∧ (v'.ownBlock = v.ownBlock ∨ ∀ k, v'.ownBlock = some k → w.heap.size ≤ k) := by
  go_enter Tryz.func72, Tryz.ntmps72
  go_wp2_with fail
  go_loopw [2] (fun n' wr => ∃ (k : Nat) (m : List Bool) (u : Value), k ≤ n ∧ n' = .int .i64 (k : Int) ∧ m ++ numB x k = l ++ numB x n ∧ BT wr B b u m ∧ Two b v.ownBlock w wr ∧ (u.ownBlock = v.ownBlock ∨ ∀ k, u.ownBlock = some k → w.heap.size ≤ k)) (fun n' _ => (intOf n').toNat)
  case atStart => exact ⟨n, l, v, Nat.le_refl _, rfl, rfl, h, Two.refl _ _ _, .inl rfl⟩
  case round =>
    obtain ⟨k, m, u, hk, rfl, hm, hbt, htwo, hown⟩ := hrel
    by_cases hlt : 0 < k
    · have hc0 := hbt.c0
      have hc1 := hbt.c1
      have hf0 := hbt.f 0
      have hf1 := hbt.f 1
      have hml : m.length ≤ 562949953421312 := by have := congrArg List.length hm; simp only [List.length_append, numB_length] at this; omega
      have Hm := Go.Lib.hid hm; clear hm
      go_upto_if 26 with (fail)
      go_cut [26] (fun s wx => ∃ u2, BB wx B b u2 (room m) m.length ∧ Two b u.ownBlock wr wx ∧ (u2.ownBlock = u.ownBlock ∨ ∀ k, u2.ownBlock = some k → wr.heap.size ≤ k))
      case first =>
        by_cases h0 : m.length % 8 = 0
        · have hbt2 := hbt.below ((Below.refl _ wr).alloc (Nat.le_refl _) (.cells #[.int .u8 0] 5))
          have hx0 : (wr.alloc (.cells #[.int .u8 0] 5)).cell? ⟨wr.heap.size, 0, none⟩ = some (.int .u8 (((0 : UInt8).toNat : Nat) : Int)) := by simp
          have hsz : (wr.alloc (.cells #[.int .u8 0] 5)).heap.size = wr.heap.size + 1 := Array.size_push ..
          have hBle : B ≤ wr.heap.size + 1 := by have := hbt.lt; have := hbt.low; omega
          have hpl : (pack m).length < 140737488355328 := by rw [pack_length]; omega
          rw [← hsz] at hBle
          have Hsz := Go.Lib.hid hsz; clear hsz
          go_wp2_with (first
            | (with_reducible show wpList _ _ _ (⟨some 33, _, _, _, _, _⟩ :: _) _ _; go_must (refine wpList_append_byte _ rfl (.tmp 31) (.tmp 32) 47 rfl B 5 Tryz.underlying47 info8 u (pack m) wr.heap.size 1 0 rfl rfl hbt2.row hx0 hpl hBle ?_); intro u2 w2 hown2 hg2 hw2; obtain ⟨g2, cap2, rfl, -, -, hc1', hc2', -⟩ := hown2.form (by simp); have k0 := hg2.cell (a := ⟨b, 0, none⟩) hbt2.c0 hbt2.apart.symm; have kf : w2.frozen? ⟨b, 0, none⟩ = false := (World.frozen?_of_block (a := ⟨b, 0, none⟩) (hg2.block b hbt2.lt hbt2.apart.symm)).trans (hbt2.f 0))
            | fail)
          go_meet
          rw [show (pack m ++ [(0 : UInt8)]).length = (pack m).length + 1 from by simp] at hown2 hw2
          have hr : room m = pack m ++ [0] := by unfold room; rw [if_pos h0]
          exact ⟨_, by rw [hr]; exact hbt2.grown hg2 hown2, ((Two.of_below ((Below.refl _ wr).alloc (Nat.le_refl _) _)).trans (Two.of_grown hg2) (fun j hj => .inl hj)).set (p := ⟨b, 0, none⟩) (.inl rfl) _, hw2.imp id fun h k hk => Nat.le_trans (by rw [Hsz.out]; omega) (h k hk)⟩
        · go_wp2_with fail
          go_meet
          exact ⟨u, by unfold room; rw [if_neg h0]; exact hbt, Two.refl _ _ _, .inl rfl⟩
      case rest =>
        obtain ⟨u2, hbb, htwo2, hown2⟩ := hcut
        obtain ⟨g, cap, rfl, hBg, hgs, hcl, hcm, hgf⟩ := hbb.row.form (by rw [room_length]; omega)
        rw [room_length] at hcl
        obtain ⟨t, ht⟩ : ∃ t : Nat, t = min k (8 - m.length % 8) := ⟨_, rfl⟩
        have htI : min (k : Int) (8 - (m.length : Int) % 8) = (t : Int) := by omega
        have hc1 := hbb.c1
        have HB := hbb.lt
        have K0 := hbb.c0
        have hdl : m.length / 8 < (room m).length := by rw [room_length]; omega
        have KO := hbb.row.cell (m.length / 8) hdl
        have KF := hbb.row.frozenAt (m.length / 8)
        rw [room_length] at K0
        have ho : (room m)[m.length / 8] = (room m).getD (m.length / 8) 0 := by rw [List.getD_eq_getElem?_getD, List.getElem?_eq_getElem hdl]; rfl
        rw [ho] at KO
        clear ho
        have Ht := Go.Lib.hid ht
        have HK0 := Go.Lib.hid K0; clear K0
        have HKO := Go.Lib.hid KO; clear KO
        have HKF := Go.Lib.hid KF; clear KF
        have HBB := Go.Lib.hid hbb; clear hbb
        have hcap := Go.Lib.hid hcl
        clear hc0 hf0 hf1 ht hcl hcm hgf
        go_upto_region 6 with (fail)
        have hu : (m.length : Int) % 8 = ((m.length % 8 : Nat) : Int) := by omega
        rw [hu]
        clear hu hc1
        have K0 := HK0.out
        have KO := HKO.out
        have K1 := HBB.out.c1
        have F1 := HBB.out.f 1
        have hix := run_idx8 g (m.length / 8 + 1) cap (m.length / 8) (by omega)
        have ht0 : 0 < t ∧ m.length % 8 + t ≤ 8 ∧ t ≤ k ∧ t ≤ 8 := by have := Ht.out; omega
        obtain ⟨ht0, hut, htk, ht8'⟩ := ht0
        have hd1 : IntKind.i64.wrap (((m.length / 8 + 1 : Nat) : Int) - 1) = ((m.length / 8 : Nat) : Int) := by rw [IntKind.wrap_i64]; omega
        obtain ⟨kt, ekt⟩ : ∃ q : Nat, q = k - t := ⟨_, rfl⟩
        obtain ⟨t8, et8⟩ : ∃ q : Nat, q = 8 - t := ⟨_, rfl⟩
        have hkt : IntKind.i64.wrap ((k : Int) - (t : Int)) = (kt : Int) := by rw [IntKind.wrap_i64]; omega
        have ht8 : IntKind.i64.wrap (8 - (t : Int)) = (t8 : Int) := by rw [IntKind.wrap_i64]; omega
        have hX := shr_nat .u64 .i64 x kt (by show _ ≤ (64 : Int); omega)
        obtain ⟨X, eX⟩ : ∃ q : Nat, q = x / 2 ^ kt := ⟨_, rfl⟩
        obtain ⟨c1, ec1⟩ : ∃ q : Nat, q = X % 256 := ⟨_, rfl⟩
        have hc1 : IntKind.u8.wrap (X : Int) = (c1 : Int) := by rw [IntKind.wrap_u8']; omega
        have hc2 := shl_nat .u8 .i64 c1 t8 (by show _ ≤ (8 : Int); omega)
        obtain ⟨c2, ec2⟩ : ∃ q : Nat, q = c1 * 2 ^ t8 % 256 := ⟨_, rfl⟩
        have hc2' : IntKind.u8.wrap ((c1 * 2 ^ t8 : Nat) : Int) = (c2 : Int) := by rw [IntKind.wrap_u8']; omega
        rw [hc2'] at hc2
        obtain ⟨n1, n2⟩ := put_nums ((room m).getD (m.length / 8) 0).toNat X t (m.length % 8) (UInt8.toNat_lt _) hut
        rw [← et8, ← ec1, ← ec2] at n1
        rw [← et8, ← n1] at n2
        rw [← eX] at hX
        obtain ⟨c3, ec3⟩ : ∃ q : Nat, q = c2 / 2 ^ (m.length % 8) := ⟨_, rfl⟩
        have hc3i : (c2 : Int) / 2 ^ (m.length % 8) = (c3 : Int) := by rw [ec3]; simp
        rw [← ec3] at n2
        have hr := n2
        obtain ⟨r, er⟩ : ∃ q : Nat, q = putByte ((room m).getD (m.length / 8) 0).toNat (X % 2 ^ t) t (m.length % 8) := ⟨_, rfl⟩
        rw [← er] at hr
        have Er := Go.Lib.hid er
        have EX := Go.Lib.hid eX
        have Ekt := Go.Lib.hid ekt
        clear n1 n2 er ec3 hc2' ec2 ec1 eX et8 ekt
        have Er2 := Er
        generalize ((room m).getD (m.length / 8) 0).toNat = o at KO hr Er
        clear Er
        generalize hd : m.length / 8 = d at *
        generalize hu : m.length % 8 = um at *
        have Hd := Go.Lib.hid hd
        have Hu := Go.Lib.hid hu
        clear hd hu
        generalize d + 1 = rl at *
        have hmt : (m.length : Int) + (t : Int) = ((m.length + t : Nat) : Int) := by omega
        have Hmt := Go.Lib.hid hmt; clear hmt
        refine wp_region_head 25 (by decide) (by kernel_rfl) (V6 b g rl cap d o x k t kt X c1 t8 c2 um c3 r) (V6_below b g rl cap d o x k t kt X c1 t8 c2 um c3 r) (by decide +kernel) (by rfl) [40, 41, 42, 43, 44, 45, 46, 47, 48, 49, 50, 51, 52, 53, 54, 55, 56, 57, 58, 59, 60, 61, 62, 63, 64] (by rfl) ?_ ?_
        · intro i o hin ho a w6 hb6 hlen hg
          have k0 := (hb6.cell (p := ⟨b, 0, none⟩) HB).trans K0
          have ko := (hb6.cell (p := ⟨g, d, none⟩) hgs).trans KO
          match i, hin, ho with
          | 0, hin, ho =>
            obtain rfl := Option.some.inj ho
            have h0 := given_old hg 0 (by decide +kernel)
            clear hg
            exact st_yield ho (wanted_none rfl) (.pointer (some ⟨b, 0, none⟩)) w6 (by simp [execOp, Act.eval, h0, go_sem]) ⟨_, rfl, Below.refl _ _, by rintro t' ⟨⟩; rfl⟩
          | 1, hin, ho =>
            obtain rfl := Option.some.inj ho
            obtain ⟨_, h40, rfl⟩ := given_fed hg 40 (by decide +kernel)
            clear hg
            exact st_yield ho (wanted_none rfl) (.pointer (some ⟨b, 0, none⟩)) w6 (by simp [execOp, Act.eval, h40, go_sem]) ⟨_, rfl, Below.refl _ _, by rintro t' ⟨⟩; rfl⟩
          | 2, hin, ho =>
            obtain rfl := Option.some.inj ho
            obtain ⟨_, h41, rfl⟩ := given_fed hg 41 (by decide +kernel)
            clear hg
            exact st_yield ho (wanted_none rfl) (.pointer (some ⟨b, 0, none⟩)) w6 (by simp [execOp, Act.eval, h41, go_sem]) ⟨_, rfl, Below.refl _ _, by rintro t' ⟨⟩; rfl⟩
          | 3, hin, ho =>
            obtain rfl := Option.some.inj ho
            obtain ⟨_, h42, rfl⟩ := given_fed hg 42 (by decide +kernel)
            clear hg
            exact st_yield ho (wanted_none rfl) (.slice (some ⟨g, 0, none⟩) rl cap) w6 (by simp [execOp, Act.eval, h42, go_sem, k0]) ⟨_, rfl, Below.refl _ _, by rintro t' ⟨⟩; rfl⟩
          | 4, hin, ho =>
            obtain rfl := Option.some.inj ho
            have h0 := given_old hg 0 (by decide +kernel)
            clear hg
            exact st_yield ho (wanted_none rfl) (.pointer (some ⟨b, 0, none⟩)) w6 (by simp [execOp, Act.eval, h0, go_sem]) ⟨_, rfl, Below.refl _ _, by rintro t' ⟨⟩; rfl⟩
          | 5, hin, ho =>
            obtain rfl := Option.some.inj ho
            obtain ⟨_, h44, rfl⟩ := given_fed hg 44 (by decide +kernel)
            clear hg
            exact st_yield ho (wanted_none rfl) (.pointer (some ⟨b, 0, none⟩)) w6 (by simp [execOp, Act.eval, h44, go_sem]) ⟨_, rfl, Below.refl _ _, by rintro t' ⟨⟩; rfl⟩
          | 6, hin, ho =>
            obtain rfl := Option.some.inj ho
            obtain ⟨_, h45, rfl⟩ := given_fed hg 45 (by decide +kernel)
            clear hg
            exact st_yield ho (wanted_none rfl) (.pointer (some ⟨b, 0, none⟩)) w6 (by simp [execOp, Act.eval, h45, go_sem]) ⟨_, rfl, Below.refl _ _, by rintro t' ⟨⟩; rfl⟩
          | 7, hin, ho =>
            obtain rfl := Option.some.inj ho
            obtain ⟨_, h46, rfl⟩ := given_fed hg 46 (by decide +kernel)
            clear hg
            exact st_yield ho (wanted_none rfl) (.slice (some ⟨g, 0, none⟩) rl cap) w6 (by simp [execOp, Act.eval, h46, go_sem, k0]) ⟨_, rfl, Below.refl _ _, by rintro t' ⟨⟩; rfl⟩
          | 8, hin, ho =>
            obtain rfl := Option.some.inj ho
            obtain ⟨_, h47, rfl⟩ := given_fed hg 47 (by decide +kernel)
            clear hg
            exact st_yield ho (wanted_none rfl) (.int .i64 ((rl : Nat) : Int)) w6 (by simp [execOp, Act.eval, h47, go_sem, resolve, invoke, builtin]) ⟨_, rfl, Below.refl _ _, by rintro t' ⟨⟩; rfl⟩
          | 9, hin, ho =>
            obtain rfl := Option.some.inj ho
            obtain ⟨_, h48, rfl⟩ := given_fed hg 48 (by decide +kernel)
            clear hg
            exact st_yield ho (wanted_none rfl) (.int .i64 ((d : Nat) : Int)) w6 (by simp [execOp, Act.eval, h48, go_sem, hd1]) ⟨_, rfl, Below.refl _ _, by rintro t' ⟨⟩; rfl⟩
          | 10, hin, ho =>
            obtain rfl := Option.some.inj ho
            obtain ⟨_, h43, rfl⟩ := given_fed hg 43 (by decide +kernel)
            obtain ⟨_, h49, rfl⟩ := given_fed hg 49 (by decide +kernel)
            clear hg
            exact st_yield ho (wanted_none rfl) (.pointer (some ⟨g, d, none⟩)) w6 (by simp [execOp, Act.eval, h43, h49, go_sem, hix]) ⟨_, rfl, Below.refl _ _, by rintro t' ⟨⟩; rfl⟩
          | 11, hin, ho =>
            obtain rfl := Option.some.inj ho
            obtain ⟨_, h50, rfl⟩ := given_fed hg 50 (by decide +kernel)
            clear hg
            exact st_yield ho (wanted_none rfl) (.int .u8 (o : Int)) w6 (by simp [execOp, Act.eval, h50, go_sem, ko]) ⟨_, rfl, Below.refl _ _, by rintro t' ⟨⟩; rfl⟩
          | 12, hin, ho =>
            obtain rfl := Option.some.inj ho
            have h1 := given_old hg 1 (by decide +kernel)
            clear hg
            exact st_yield ho (wanted_none rfl) (.int .u64 (x : Int)) w6 (by simp [execOp, Act.eval, h1, go_sem]) ⟨_, rfl, Below.refl _ _, by rintro t' ⟨⟩; rfl⟩
          | 13, hin, ho =>
            obtain rfl := Option.some.inj ho
            have h2 := given_old hg 2 (by decide +kernel)
            clear hg
            exact st_yield ho (wanted_none rfl) (.int .i64 ((k : Nat) : Int)) w6 (by simp [execOp, Act.eval, h2, go_sem]) ⟨_, rfl, Below.refl _ _, by rintro t' ⟨⟩; rfl⟩
          | 14, hin, ho =>
            obtain rfl := Option.some.inj ho
            have h7 := given_old hg 7 (by decide +kernel)
            clear hg
            exact st_yield ho (wanted_none rfl) (.int .i64 ((t : Nat) : Int)) w6 (by simp [execOp, Act.eval, h7, go_sem]) ⟨_, rfl, Below.refl _ _, by rintro t' ⟨⟩; rfl⟩
          | 15, hin, ho =>
            obtain rfl := Option.some.inj ho
            obtain ⟨_, h53, rfl⟩ := given_fed hg 53 (by decide +kernel)
            obtain ⟨_, h54, rfl⟩ := given_fed hg 54 (by decide +kernel)
            clear hg
            exact st_yield ho (wanted_none rfl) (.int .i64 ((kt : Nat) : Int)) w6 (by simp [execOp, Act.eval, h53, h54, go_sem, hkt]) ⟨_, rfl, Below.refl _ _, by rintro t' ⟨⟩; rfl⟩
          | 16, hin, ho =>
            obtain rfl := Option.some.inj ho
            obtain ⟨_, h52, rfl⟩ := given_fed hg 52 (by decide +kernel)
            obtain ⟨_, h55, rfl⟩ := given_fed hg 55 (by decide +kernel)
            clear hg
            exact st_yield ho (wanted_none rfl) (.int .u64 (X : Int)) w6 (by simp [execOp, Act.eval, h52, h55, go_sem, hX]) ⟨_, rfl, Below.refl _ _, by rintro t' ⟨⟩; rfl⟩
          | 17, hin, ho =>
            obtain rfl := Option.some.inj ho
            obtain ⟨_, h56, rfl⟩ := given_fed hg 56 (by decide +kernel)
            clear hg
            exact st_yield ho (wanted_none rfl) (.int .u8 (c1 : Int)) w6 (by simp [execOp, Act.eval, h56, go_sem, hc1]) ⟨_, rfl, Below.refl _ _, by rintro t' ⟨⟩; rfl⟩
          | 18, hin, ho =>
            obtain rfl := Option.some.inj ho
            have h7 := given_old hg 7 (by decide +kernel)
            clear hg
            exact st_yield ho (wanted_none rfl) (.int .i64 ((t : Nat) : Int)) w6 (by simp [execOp, Act.eval, h7, go_sem]) ⟨_, rfl, Below.refl _ _, by rintro t' ⟨⟩; rfl⟩
          | 19, hin, ho =>
            obtain rfl := Option.some.inj ho
            obtain ⟨_, h58, rfl⟩ := given_fed hg 58 (by decide +kernel)
            clear hg
            exact st_yield ho (wanted_none rfl) (.int .i64 ((t8 : Nat) : Int)) w6 (by simp [execOp, Act.eval, h58, go_sem, ht8]) ⟨_, rfl, Below.refl _ _, by rintro t' ⟨⟩; rfl⟩
          | 20, hin, ho =>
            obtain rfl := Option.some.inj ho
            obtain ⟨_, h57, rfl⟩ := given_fed hg 57 (by decide +kernel)
            obtain ⟨_, h59, rfl⟩ := given_fed hg 59 (by decide +kernel)
            clear hg
            exact st_yield ho (wanted_none rfl) (.int .u8 (c2 : Int)) w6 (by simp [execOp, Act.eval, h57, h59, go_sem, hc2]) ⟨_, rfl, Below.refl _ _, by rintro t' ⟨⟩; rfl⟩
          | 21, hin, ho =>
            obtain rfl := Option.some.inj ho
            have h6 := given_old hg 6 (by decide +kernel)
            clear hg
            exact st_yield ho (wanted_none rfl) (.int .i64 ((um : Nat) : Int)) w6 (by simp [execOp, Act.eval, h6, go_sem]) ⟨_, rfl, Below.refl _ _, by rintro t' ⟨⟩; rfl⟩
          | 22, hin, ho =>
            obtain rfl := Option.some.inj ho
            obtain ⟨_, h60, rfl⟩ := given_fed hg 60 (by decide +kernel)
            obtain ⟨_, h61, rfl⟩ := given_fed hg 61 (by decide +kernel)
            clear hg
            exact st_yield ho (wanted_none rfl) (.int .u8 (c3 : Int)) w6 (by simp [execOp, Act.eval, h60, h61, go_sem, hc3i]) ⟨_, rfl, Below.refl _ _, by rintro t' ⟨⟩; rfl⟩
          | 23, hin, ho =>
            obtain rfl := Option.some.inj ho
            obtain ⟨_, h51, rfl⟩ := given_fed hg 51 (by decide +kernel)
            obtain ⟨_, h62, rfl⟩ := given_fed hg 62 (by decide +kernel)
            clear hg
            exact st_yield ho (wanted_none rfl) (.int .u8 (r : Int)) w6 (by simp [execOp, Act.eval, h51, h62, go_sem, hr]) ⟨_, rfl, Below.refl _ _, by rintro t' ⟨⟩; rfl⟩
          | 24, hin, ho =>
            obtain rfl := Option.some.inj ho
            obtain ⟨_, h43, rfl⟩ := given_fed hg 43 (by decide +kernel)
            obtain ⟨_, h49, rfl⟩ := given_fed hg 49 (by decide +kernel)
            clear hg
            exact st_yield ho (wanted_none rfl) (.pointer (some ⟨g, d, none⟩)) w6 (by simp [execOp, Act.eval, h43, h49, go_sem, hix]) ⟨_, rfl, Below.refl _ _, by rintro t' ⟨⟩; rfl⟩
          | n + 25, hin, ho => omega
        · intro f w6 hb6 hv
          have h63 := hv 63 (by decide)
          have h64 := hv 64 (by decide)
          simp only [V6] at h63 h64
          have ko := (hb6.cell (p := ⟨g, d, none⟩) hgs).trans KO
          have kf := (hb6.frozen (p := ⟨g, d, none⟩) hgs).trans HKF.out
          have hne : g ≠ b := fun e => HBB.out.apart (by rw [e]; rfl)
          have kc1 : (w6.setCell ⟨g, d, none⟩ (.int .u8 (r : Int))).cell? ⟨b, 1, none⟩ = some (.int .i64 (m.length : Int)) := by
            rw [World.cell?_setCell_other _ _ _ _ (fun e => hne (congrArg Addr.block e))]
            exact (hb6.cell (p := ⟨b, 1, none⟩) HB).trans K1
          have kf1 : (w6.setCell ⟨g, d, none⟩ (.int .u8 (r : Int))).frozen? ⟨b, 1, none⟩ = false := by
            rw [World.frozen?_setCell]
            exact (hb6.frozen (p := ⟨b, 1, none⟩) HB).trans F1
          have hfin := put_close (X := X) (t := t) (r := r) htwo hown htwo2 hown2 HBB.out hb6 ht0 (by rw [Hu.out]; exact hut) (by rw [Er2.out, Hu.out, Hd.out]) _ Hmt.out
          rw [Hd.out] at hfin
          have Hfin := Go.Lib.hid hfin; clear hfin htwo hown htwo2 hown2 hbt
          clear hv K0 KO K1 F1 hr hc3i hc2 hc1 hX ht8 hd1 hix hne
          unfold putAll
          simp only [List.foldl, List.drop]
          simp only [h63, h64]
          go_simp
          go_wp2_with fail
          obtain ⟨u', h1, h2, h3⟩ := Hfin.out
          have hkk := Ekt.out
          have hxx := EX.out
          refine ⟨⟨kt, m ++ numB X t, u', by omega, rfl, ?_, h1, h2, h3⟩, by simp only [intOf]; omega⟩
          rw [List.append_assoc, hxx, hkk, ← numB_take x k t htk]
          exact Hm.out
    · obtain rfl : k = 0 := by omega
      rw [show numB x 0 = [] from rfl, List.append_nil] at hm
      have Hfin : Hid (∃ v', BT wr B b v' (l ++ numB x n) ∧ Two b v.ownBlock w wr ∧ (v'.ownBlock = v.ownBlock ∨ ∀ k, v'.ownBlock = some k → w.heap.size ≤ k)) := ⟨u, by rw [← hm]; exact hbt, htwo, hown⟩
      clear hm hbt htwo hown
      go_wp2_with fail
      go_end0
      exact ⟨rfl, Hfin.out⟩

end Go.Proofs.YthbnecdeebmlhaaGreat

namespace Go.Proofs.YthbnecdeebmlhaaGreat
open Go.RowKit

set_option maxRecDepth 100000 in
theorem put_nil (t : Bool) (w : World) : Calls Tryz.prog 43 #[.pointer none, .bool t] w fun e w' => e = .returned (.tuple #[]) ∧ w = w' := by
  cases t
  all_goals
    go_enter Tryz.func43, Tryz.ntmps43
    go_wp2_with fail
    refine (putNum_nil _ _ _).mono ?_
    rintro e w1 ⟨rfl, rfl⟩
    go_wp2_with fail
    go_end0
    exact ⟨rfl, rfl⟩
set_option maxRecDepth 100000 in
theorem bitput_c (t : Bool) (w : World) (B b : Nat) (v : Value) (l : List Bool) (h : BT w B b v l) (hl : l.length + 1 ≤ 562949953421312) :
    Calls Tryz.prog 43 #[.pointer (some ⟨b, 0, none⟩), .bool t] w fun e w' => e = .returned (.tuple #[]) ∧
      ∃ v', BT w' B b v' (l ++ [t]) ∧ Two b v.ownBlock w w' ∧ (v'.ownBlock = v.ownBlock ∨ ∀ k, v'.ownBlock = some k → w.heap.size ≤ k) := by
  have C0 := putNum_c (if t then 1 else 0) 1 w B b v l h (by omega) hl
  have e1 : numB (if t then 1 else 0) 1 = [t] := by cases t <;> rfl
  rw [e1] at C0
  cases t
  all_goals
    have C := Go.Lib.hid C0
    clear C0 e1
    go_enter Tryz.func43, Tryz.ntmps43
    go_wp2_with fail
    refine C.out.mono ?_
    rintro e w1 ⟨rfl, h1⟩
    have H1 := Go.Lib.hid h1
    clear h1 C
    go_wp2_with fail
    go_end0
    exact ⟨rfl, H1.out⟩

set_option maxRecDepth 100000 in
theorem len_c (w : World) (B b : Nat) (v : Value) (p : List UInt8) (n : Nat) (h : BB w B b v p n) : Calls Tryz.prog 74 #[.pointer (some ⟨b, 0, none⟩)] w fun e w' => e = .returned (.int .i64 (n : Int)) ∧ w = w' := by
  have hc1 := h.c1
  clear h
  go_enter Tryz.func74, Tryz.ntmps74
  go_wp2_with fail
  go_ret
  exact ⟨rfl, rfl⟩

set_option maxRecDepth 100000 in
/-- They are not all there. -/
theorem num_no (a n : Int) (w : World) (B b : Nat) (v : Value) (l : List Bool) (h : BT w B b v l) (hl : l.length ≤ 562949953421312) (hno : n < 0 ∨ 64 < n ∨ a < 0 ∨ (l.length : Int) - n < a) :
    Calls Tryz.prog 75 #[.pointer (some ⟨b, 0, none⟩), .int .i64 a, .int .i64 n] w fun e w' => e = .returned (.tuple #[.int .u64 0, .bool false]) ∧ w = w' := by
  have hc1 := h.c1
  clear h
  by_cases h1 : n < 0
  · go_enter Tryz.func75, Tryz.ntmps75
    go_wp2_with fail
    go_ret2
    exact ⟨rfl, rfl⟩
  by_cases h2 : 64 < n
  · go_enter Tryz.func75, Tryz.ntmps75
    go_wp2_with fail
    go_ret2
    exact ⟨rfl, rfl⟩
  by_cases h3 : a < 0
  · go_enter Tryz.func75, Tryz.ntmps75
    go_wp2_with fail
    go_ret2
    exact ⟨rfl, rfl⟩
  have h4 : (l.length : Int) - n < a := by omega
  clear hno
  go_enter Tryz.func75, Tryz.ntmps75
  go_wp2_with fail
  go_ret2
  exact ⟨rfl, rfl⟩

def V7 (b g rl cap d o t um t8 at_ X0 X1 c1 c2 X2 : Nat) : Nat → World → Value → Prop
  | 43, _, v => v = .int .u64 (X0 : Int)
  | 44, _, v => v = .int .i64 (t : Int)
  | 45, _, v => v = .int .u64 (X1 : Int)
  | 46, _, v => v = .pointer (some ⟨b, 0, none⟩)
  | 47, _, v => v = .pointer (some ⟨b, 0, none⟩)
  | 48, _, v => v = .pointer (some ⟨b, 0, none⟩)
  | 49, _, v => v = .slice (some ⟨g, 0, none⟩) rl cap
  | 50, _, v => v = .int .i64 (at_ : Int)
  | 51, _, v => v = .int .i64 (d : Int)
  | 52, _, v => v = .pointer (some ⟨g, d, none⟩)
  | 53, _, v => v = .int .u8 (o : Int)
  | 54, _, v => v = .int .i64 (um : Int)
  | 55, _, v => v = .int .u8 (c1 : Int)
  | 56, _, v => v = .int .i64 (t : Int)
  | 57, _, v => v = .int .i64 (t8 : Int)
  | 58, _, v => v = .int .u8 (c2 : Int)
  | 59, _, v => v = .int .u64 (c2 : Int)
  | 60, _, v => v = .int .u64 (X2 : Int)
  | 8, _, v => v = .int .u64 (X2 : Int)
  | _, _, _ => True

theorem V7_below (b g rl cap d o t um t8 at_ X0 X1 c1 c2 X2 : Nat) : ∀ (i : Nat) (w w' : World) (v : Value), V7 b g rl cap d o t um t8 at_ X0 X1 c1 c2 X2 i w v → Below w.heap.size w w' → V7 b g rl cap d o t um t8 at_ X0 X1 c1 c2 X2 i w' v := by
  intro i w w' v h hb
  unfold V7 at h ⊢
  split at h <;> first | exact h | trivial | exact RB.below h hb | exact Own.below h hb

set_option maxHeartbeats 2000000 in
set_option maxRecDepth 100000 in
theorem num_c (a n : Nat) (w : World) (B b : Nat) (v : Value) (l : List Bool) (h : BT w B b v l) (hl : l.length ≤ 562949953421312) (hn : n ≤ 64) (ha : a + n ≤ l.length) :
    Calls Tryz.prog 75 #[.pointer (some ⟨b, 0, none⟩), .int .i64 (a : Int), .int .i64 (n : Int)] w fun e w' => e = .returned (.tuple #[.int .u64 (val ((l.drop a).take n) : Int), .bool true]) ∧ Below w.heap.size w w' := by
  have hc1 := h.c1
  have h4 : ¬ ((l.length : Int) - (n : Int) < (a : Int)) := by omega
  have H := Go.Lib.hid h
  clear h
  go_enter Tryz.func75, Tryz.ntmps75
  go_wp2_with fail
  go_loopw [1, 2, 8] (fun a' n' x wr => ∃ (j k : Nat), j + k = n ∧ a' = .int .i64 ((a + j : Nat) : Int) ∧ n' = .int .i64 (k : Int) ∧ x = .int .u64 (val ((l.drop a).take j) : Int) ∧ Below w.heap.size w wr) (fun _ n' _ _ => (intOf n').toNat)
  case atStart => exact ⟨0, n, by omega, rfl, rfl, rfl, Below.refl _ _⟩
  case round =>
    obtain ⟨j, k, hjk, rfl, rfl, rfl, hbw⟩ := hrel
    by_cases hlt : 0 < k
    · have hbt : BT wr B b v l := H.out.below hbw
      have hpl : 0 < (pack l).length := by rw [pack_length]; omega
      obtain ⟨g, cap, rfl, hBg, hgs, hcl, hcm, hgf⟩ := hbt.row.form hpl
      obtain ⟨t, ht⟩ : ∃ t : Nat, t = min k (8 - (a + j) % 8) := ⟨_, rfl⟩
      obtain ⟨at_, hat⟩ : ∃ q : Nat, q = a + j := ⟨_, rfl⟩
      have hd : at_ / 8 < (pack l).length := by rw [pack_length]; omega
      have HB := hbt.lt
      have HG := hgs
      have K0 := hbt.c0
      have KO := hbt.row.cell (at_ / 8) hd
      rw [← hat] at ht ⊢
      have htI : min (k : Int) (8 - (at_ : Int) % 8) = (t : Int) := by omega
      have Ht := Go.Lib.hid ht; clear ht
      have Hat := Go.Lib.hid hat; clear hat
      have HK0 := Go.Lib.hid K0; clear K0
      have HKO := Go.Lib.hid KO; clear KO
      have Hjk := Go.Lib.hid hjk; clear hjk
      have hat63 : at_ ≤ 562949953421312 := by have := Hat.out; have := Hjk.out; omega
      clear hbt hcl hcm hgf hpl
      generalize hx0 : val ((l.drop a).take j) = X0
      have Hx0 := Go.Lib.hid hx0; clear hx0
      go_upto_region 7 with (fail)
      have hu : (at_ : Int) % 8 = ((at_ % 8 : Nat) : Int) := by omega
      rw [hu]
      clear hu hc1
      have K0 := HK0.out
      have KO := HKO.out
      have hix := run_idx8 g (pack l).length cap (at_ / 8) hd
      have ht0 : 0 < t ∧ at_ % 8 + t ≤ 8 ∧ t ≤ k ∧ t ≤ 8 := by have := Ht.out; omega
      obtain ⟨ht0, hut, htk, ht8'⟩ := ht0
      obtain ⟨t8, et8⟩ : ∃ q : Nat, q = 8 - t := ⟨_, rfl⟩
      have ht8 : IntKind.i64.wrap (8 - (t : Int)) = (t8 : Int) := by rw [IntKind.wrap_i64]; omega
      have hpiece := pack_piece l at_ t hut (by have := Hat.out; have := Hjk.out; omega) ht0 hd
      have hval : val ((l.drop a).take (j + t)) = X0 * 2 ^ t + val ((l.drop at_).take t) := by
        have hA := Hat.out
        have hJ := Hjk.out
        have hl1 : ((l.drop (a + j)).take t).length = t := by simp only [List.length_take, List.length_drop]; omega
        rw [← take_more, val_append, Hx0.out, hl1, ← hA]
      have hlt0 : X0 < 2 ^ j := by
        have h1 := val_lt ((l.drop a).take j)
        rw [Hx0.out] at h1
        exact Nat.lt_of_lt_of_le h1 (Nat.pow_le_pow_right (by omega) (by simp only [List.length_take]; omega))
      have hc2l := val_lt ((l.drop at_).take t)
      have hc2t : ((l.drop at_).take t).length ≤ t := by simp only [List.length_take]; omega
      obtain ⟨c2, ec2⟩ : ∃ q : Nat, q = val ((l.drop at_).take t) := ⟨_, rfl⟩
      have hc2u : c2 < 2 ^ t := by rw [ec2]; exact Nat.lt_of_lt_of_le hc2l (Nat.pow_le_pow_right (by omega) hc2t)
      obtain ⟨X1, eX1⟩ : ∃ q : Nat, q = X0 * 2 ^ t := ⟨_, rfl⟩
      have hX1 : X1 < 18446744073709551616 := by
        have h1 : X1 < 2 ^ j * 2 ^ t := by rw [eX1]; exact Nat.mul_lt_mul_of_pos_right hlt0 (Nat.pow_pos (by omega))
        rw [← Nat.pow_add] at h1
        exact Nat.lt_of_lt_of_le h1 (Nat.le_trans (Nat.pow_le_pow_right (by omega) (show j + t ≤ 64 by have := Hjk.out; omega)) (by decide))
      have hX2 : X1 ||| c2 = val ((l.drop a).take (j + t)) := by rw [hval, eX1, or_val _ _ _ hc2u, ec2]
      have hc2b : c2 < 18446744073709551616 := Nat.lt_of_lt_of_le hc2u (Nat.le_trans (Nat.pow_le_pow_right (by omega) (show t ≤ 64 by omega)) (by decide))
      have hr := u64_or_nat X1 c2 hX1 hc2b
      rw [hX2] at hr
      have hx1 : IntKind.u64.wrap ((X0 : Int) * 2 ^ t) = (X1 : Int) := by
        have e : (X0 : Int) * 2 ^ t = (X1 : Int) := by rw [eX1]; simp
        rw [e, IntKind.wrap_u64]
        omega
      have hcv : IntKind.u64.wrap (c2 : Int) = (c2 : Int) := by rw [IntKind.wrap_u64]; omega
      rw [← et8, ← ec2] at hpiece
      have hq : (at_ : Int) / 8 = ((at_ / 8 : Nat) : Int) := by omega
      have hqw : IntKind.i64.wrap ((at_ / 8 : Nat) : Int) = ((at_ / 8 : Nat) : Int) := by rw [IntKind.wrap_i64]; omega
      have ho : (pack l)[at_ / 8].toNat < 256 := UInt8.toNat_lt _
      generalize (pack l)[at_ / 8].toNat = o at KO hpiece ho
      obtain ⟨c1, ec1⟩ : ∃ q : Nat, q = o * 2 ^ (at_ % 8) % 256 := ⟨_, rfl⟩
      rw [← ec1] at hpiece
      have hc1 : IntKind.u8.wrap ((o : Int) * 2 ^ (at_ % 8)) = (c1 : Int) := by
        have e : (o : Int) * 2 ^ (at_ % 8) = ((o * 2 ^ (at_ % 8) : Nat) : Int) := by simp
        rw [e, IntKind.wrap_u8', ec1]
        omega
      have hc2i : (c1 : Int) / 2 ^ min t8 8 = (c2 : Int) := by rw [Nat.min_eq_left (by omega), ← hpiece]; simp
      obtain ⟨X2, eX2⟩ : ∃ q : Nat, q = val ((l.drop a).take (j + t)) := ⟨_, rfl⟩
      rw [← eX2] at hr
      have EX2 := Go.Lib.hid eX2
      clear eX2 hpiece ec1 ho hX2 hc2b hX1 eX1 hc2u ec2 hc2t hc2l hlt0 hval et8 hat63
      generalize at_ / 8 = d at *
      generalize at_ % 8 = um at *
      clear HKO HK0
      generalize (pack l).length = rl at K0 hix
      refine wp_region_each (by kernel_rfl) (V7 b g rl cap d o t um t8 at_ X0 X1 c1 c2 X2) (V7_below b g rl cap d o t um t8 at_ X0 X1 c1 c2 X2) (by decide +kernel) (by decide +kernel) (by rfl) [43, 44, 45, 46, 47, 48, 49, 50, 51, 52, 53, 54, 55, 56, 57, 58, 59, 60, 8] (by rfl) ?_ ?_
      · intro i o ho a w6 hb6 hlen hg
        have k0 := (hb6.cell (p := ⟨b, 0, none⟩) HB).trans K0
        have ko := (hb6.cell (p := ⟨g, d, none⟩) HG).trans KO
        match i, ho with
        | 0, ho =>
          obtain rfl := Option.some.inj ho
          have h8 := given_old hg 8 (by decide +kernel)
          clear hg
          exact st_yield ho (wanted_none rfl) (.int .u64 (X0 : Int)) w6 (by simp [execOp, Act.eval, h8, go_sem]) ⟨_, rfl, Below.refl _ _, by rintro t' ⟨⟩; rfl⟩
        | 1, ho =>
          obtain rfl := Option.some.inj ho
          have h10 := given_old hg 10 (by decide +kernel)
          clear hg
          exact st_yield ho (wanted_none rfl) (.int .i64 (t : Int)) w6 (by simp [execOp, Act.eval, h10, go_sem]) ⟨_, rfl, Below.refl _ _, by rintro t' ⟨⟩; rfl⟩
        | 2, ho =>
          obtain rfl := Option.some.inj ho
          obtain ⟨_, h43, rfl⟩ := given_fed hg 43 (by decide +kernel)
          obtain ⟨_, h44, rfl⟩ := given_fed hg 44 (by decide +kernel)
          clear hg
          exact st_yield ho (wanted_none rfl) (.int .u64 (X1 : Int)) w6 (by simp [execOp, Act.eval, h43, h44, go_sem, hx1]) ⟨_, rfl, Below.refl _ _, by rintro t' ⟨⟩; rfl⟩
        | 3, ho =>
          obtain rfl := Option.some.inj ho
          have h0 := given_old hg 0 (by decide +kernel)
          clear hg
          exact st_yield ho (wanted_none rfl) (.pointer (some ⟨b, 0, none⟩)) w6 (by simp [execOp, Act.eval, h0, go_sem]) ⟨_, rfl, Below.refl _ _, by rintro t' ⟨⟩; rfl⟩
        | 4, ho =>
          obtain rfl := Option.some.inj ho
          obtain ⟨_, h46, rfl⟩ := given_fed hg 46 (by decide +kernel)
          clear hg
          exact st_yield ho (wanted_none rfl) (.pointer (some ⟨b, 0, none⟩)) w6 (by simp [execOp, Act.eval, h46, go_sem]) ⟨_, rfl, Below.refl _ _, by rintro t' ⟨⟩; rfl⟩
        | 5, ho =>
          obtain rfl := Option.some.inj ho
          obtain ⟨_, h47, rfl⟩ := given_fed hg 47 (by decide +kernel)
          clear hg
          exact st_yield ho (wanted_none rfl) (.pointer (some ⟨b, 0, none⟩)) w6 (by simp [execOp, Act.eval, h47, go_sem]) ⟨_, rfl, Below.refl _ _, by rintro t' ⟨⟩; rfl⟩
        | 6, ho =>
          obtain rfl := Option.some.inj ho
          obtain ⟨_, h48, rfl⟩ := given_fed hg 48 (by decide +kernel)
          clear hg
          exact st_yield ho (wanted_none rfl) (.slice (some ⟨g, 0, none⟩) rl cap) w6 (by simp [execOp, Act.eval, h48, go_sem, k0]) ⟨_, rfl, Below.refl _ _, by rintro t' ⟨⟩; rfl⟩
        | 7, ho =>
          obtain rfl := Option.some.inj ho
          have h1 := given_old hg 1 (by decide +kernel)
          clear hg
          exact st_yield ho (wanted_none rfl) (.int .i64 (at_ : Int)) w6 (by simp [execOp, Act.eval, h1, go_sem]) ⟨_, rfl, Below.refl _ _, by rintro t' ⟨⟩; rfl⟩
        | 8, ho =>
          obtain rfl := Option.some.inj ho
          obtain ⟨_, h50, rfl⟩ := given_fed hg 50 (by decide +kernel)
          clear hg
          exact st_yield ho (wanted_none rfl) (.int .i64 (d : Int)) w6 (by simp [execOp, Act.eval, h50, go_sem, hq, hqw]) ⟨_, rfl, Below.refl _ _, by rintro t' ⟨⟩; rfl⟩
        | 9, ho =>
          obtain rfl := Option.some.inj ho
          obtain ⟨_, h49, rfl⟩ := given_fed hg 49 (by decide +kernel)
          obtain ⟨_, h51, rfl⟩ := given_fed hg 51 (by decide +kernel)
          clear hg
          exact st_yield ho (wanted_none rfl) (.pointer (some ⟨g, d, none⟩)) w6 (by simp [execOp, Act.eval, h49, h51, go_sem, hix]) ⟨_, rfl, Below.refl _ _, by rintro t' ⟨⟩; rfl⟩
        | 10, ho =>
          obtain rfl := Option.some.inj ho
          obtain ⟨_, h52, rfl⟩ := given_fed hg 52 (by decide +kernel)
          clear hg
          exact st_yield ho (wanted_none rfl) (.int .u8 (o : Int)) w6 (by simp [execOp, Act.eval, h52, go_sem, ko]) ⟨_, rfl, Below.refl _ _, by rintro t' ⟨⟩; rfl⟩
        | 11, ho =>
          obtain rfl := Option.some.inj ho
          have h9 := given_old hg 9 (by decide +kernel)
          clear hg
          exact st_yield ho (wanted_none rfl) (.int .i64 (um : Int)) w6 (by simp [execOp, Act.eval, h9, go_sem]) ⟨_, rfl, Below.refl _ _, by rintro t' ⟨⟩; rfl⟩
        | 12, ho =>
          obtain rfl := Option.some.inj ho
          obtain ⟨_, h53, rfl⟩ := given_fed hg 53 (by decide +kernel)
          obtain ⟨_, h54, rfl⟩ := given_fed hg 54 (by decide +kernel)
          clear hg
          exact st_yield ho (wanted_none rfl) (.int .u8 (c1 : Int)) w6 (by simp [execOp, Act.eval, h53, h54, go_sem, hc1]) ⟨_, rfl, Below.refl _ _, by rintro t' ⟨⟩; rfl⟩
        | 13, ho =>
          obtain rfl := Option.some.inj ho
          have h10 := given_old hg 10 (by decide +kernel)
          clear hg
          exact st_yield ho (wanted_none rfl) (.int .i64 (t : Int)) w6 (by simp [execOp, Act.eval, h10, go_sem]) ⟨_, rfl, Below.refl _ _, by rintro t' ⟨⟩; rfl⟩
        | 14, ho =>
          obtain rfl := Option.some.inj ho
          obtain ⟨_, h56, rfl⟩ := given_fed hg 56 (by decide +kernel)
          clear hg
          exact st_yield ho (wanted_none rfl) (.int .i64 (t8 : Int)) w6 (by simp [execOp, Act.eval, h56, go_sem, ht8]) ⟨_, rfl, Below.refl _ _, by rintro t' ⟨⟩; rfl⟩
        | 15, ho =>
          obtain rfl := Option.some.inj ho
          obtain ⟨_, h55, rfl⟩ := given_fed hg 55 (by decide +kernel)
          obtain ⟨_, h57, rfl⟩ := given_fed hg 57 (by decide +kernel)
          clear hg
          exact st_yield ho (wanted_none rfl) (.int .u8 (c2 : Int)) w6 (by simp [execOp, Act.eval, h55, h57, go_sem, hc2i]) ⟨_, rfl, Below.refl _ _, by rintro t' ⟨⟩; rfl⟩
        | 16, ho =>
          obtain rfl := Option.some.inj ho
          obtain ⟨_, h58, rfl⟩ := given_fed hg 58 (by decide +kernel)
          clear hg
          exact st_yield ho (wanted_none rfl) (.int .u64 (c2 : Int)) w6 (by simp [execOp, Act.eval, h58, go_sem, hcv]) ⟨_, rfl, Below.refl _ _, by rintro t' ⟨⟩; rfl⟩
        | 17, ho =>
          obtain rfl := Option.some.inj ho
          obtain ⟨_, h45, rfl⟩ := given_fed hg 45 (by decide +kernel)
          obtain ⟨_, h59, rfl⟩ := given_fed hg 59 (by decide +kernel)
          clear hg
          exact st_yield ho (wanted_none rfl) (.int .u64 (X2 : Int)) w6 (by simp [execOp, Act.eval, h45, h59, go_sem, hr]) ⟨_, rfl, Below.refl _ _, by rintro t' ⟨⟩; rfl⟩
        | 18, ho =>
          obtain rfl := Option.some.inj ho
          obtain ⟨_, h60, rfl⟩ := given_fed hg 60 (by decide +kernel)
          clear hg
          exact st_yield ho (wanted_none rfl) (.int .u64 (X2 : Int)) w6 (by simp [execOp, Act.eval, h60, go_sem]) ⟨_, rfl, Below.refl _ _, by rintro t' ⟨⟩; rfl⟩
        | n + 19, ho => simp at ho
      · intro f w6 hb6 hv
        have h8 := hv 8 (by decide)
        simp only [V7] at h8
        have hbw6 := hbw.trans (hb6.mono hbw.size)
        have hk64 : k ≤ 64 := by have := Hjk.out; omega
        have hat63 : at_ + t ≤ 1000000000000000 := by have := Hat.out; have := Hjk.out; omega
        clear hv K0 KO hr hcv hc2i hc1 hqw hq hx1 ht8 hix hb6 h4
        unfold putAll
        simp only [List.foldl]
        simp only [h8]
        go_simp
        go_wp2_with fail
        go_roundw
        case rel => exact ⟨j + t, k - t, by have := Hjk.out; omega, (by have := Hat.out; congr 1; omega), (by congr 1; omega), by rw [EX2.out], hbw6⟩
        case measure => simp only [intOf]; omega
    · obtain rfl : k = 0 := by omega
      obtain rfl : j = n := by omega
      clear hc1 h4
      go_wp2_with fail
      go_ret2
      exact ⟨rfl, hbw⟩

end Go.Proofs.YthbnecdeebmlhaaGreat

namespace Go.Proofs.YthbnecdeebmlhaaGreat
open Go.RowKit

/-- Is bit i set? -/
def atBit (l : List Bool) (i : Int) : Bool := decide (0 ≤ i) && l.getD i.toNat false
set_option maxRecDepth 100000 in
theorem at_c (i : Int) (w : World) (B b : Nat) (v : Value) (l : List Bool) (h : BT w B b v l) (hl : l.length ≤ 562949953421312) :
    Calls Tryz.prog 51 #[.pointer (some ⟨b, 0, none⟩), .int .i64 i] w fun e w' => e = .returned (.bool (atBit l i)) ∧ Below w.heap.size w w' := by
  by_cases hi : 0 ≤ i ∧ i < l.length
  · obtain ⟨k, rfl⟩ : ∃ k : Nat, i = (k : Int) := ⟨i.toNat, by omega⟩
    have hk : k < l.length := by omega
    have e1 : (l.drop k).take 1 = [l[k]] := by rw [List.drop_eq_getElem_cons hk]; rfl
    have e2 : atBit l (k : Int) = l[k] := by simp [atBit, hk]
    have C := num_c k 1 w B b v l h hl (by omega) (by omega)
    rw [e1] at C
    rw [e2]
    generalize l[k] = t at C
    clear e1 e2 h hi hk
    cases t
    all_goals
      have C := Go.Lib.hid C
      go_enter Tryz.func51, Tryz.ntmps51
      go_wp2_with fail
      refine C.out.mono ?_
      rintro e w1 ⟨rfl, h1⟩
      clear C
      go_wp2_with fail
      go_ret
      exact ⟨rfl, h1⟩
  · have e2 : atBit l i = false := by
      unfold atBit
      by_cases h0 : 0 ≤ i
      · rw [List.getD_eq_getElem?_getD, List.getElem?_eq_none (by omega)]; simp
      · simp [h0]
    have C := Go.Lib.hid (num_no i 1 w B b v l h hl (by omega))
    rw [e2]
    clear e2 h hi
    go_enter Tryz.func51, Tryz.ntmps51
    go_wp2_with fail
    refine C.out.mono ?_
    rintro e w1 ⟨rfl, rfl⟩
    clear C
    go_wp2_with fail
    go_ret
    exact ⟨rfl, Below.refl _ _⟩

end Go.Proofs.YthbnecdeebmlhaaGreat

namespace Go.Proofs.YthbnecdeebmlhaaGreat
open Go.RowKit

theorem own_empty (w : World) (e : TypeId) : Own e (w.alloc (.cells #[] e)) w.heap.size (.slice (some ⟨w.heap.size, 0, none⟩) 0 0) [] :=
  ⟨rfl, .inr ⟨w.heap.size, 0, #[], rfl, Nat.le_refl _, heap_alloc_new w _, Nat.le_refl _, by simp [maxLen], rfl, rfl⟩⟩

set_option maxRecDepth 100000 in
theorem bclone_c (v : Value) (l : List UInt8) (w : World) (h : RB w v l) (hl : l.length ≤ 140737488355328) :
    Calls Tryz.prog 84 #[v] w fun e w' => ∃ v', e = .returned v' ∧ Own 5 w' w.heap.size v' l ∧ Below w.heap.size w w' := by
  obtain ⟨a, cap, rfl, h1, h2, h3, h4⟩ := id h
  have hq := fun w => Go.Lib.run_eql_slice_nil (P := Tryz.prog) w 47 5 a l.length cap 0 0 Tryz.underlying47
  cases a with
  | none =>
    obtain rfl := h3 rfl
    obtain rfl : l = [] := List.eq_nil_of_length_eq_zero (by omega)
    clear h h3 h4 hq
    have hq := fun w => Go.Lib.run_eql_slice_nil (P := Tryz.prog) w 47 5 none 0 0 0 0 Tryz.underlying47
    simp only [List.length_nil]
    go_enter Tryz.func84, Tryz.ntmps84
    go_wp2_with fail
    go_ret
    exact ⟨_, rfl, Own.nil _ _ _, Below.refl _ _⟩
  | some ad =>
    clear h3 h4 h1 h2
    go_enter Tryz.func84, Tryz.ntmps84
    have ho := own_empty w 5
    have hr := h.below ((Below.refl _ w).alloc (Nat.le_refl _) (.cells #[] 5))
    have hsz : w.heap.size ≤ (w.alloc (.cells #[] 5)).heap.size := by simp
    go_wp2_with (first
      | (with_reducible show wpList _ _ _ (⟨some 7, _, _, _, _, _⟩ :: _) _ _; go_must (refine wpList_append_RB rfl (.tmp 5) (.tmp 6) 47 rfl w.heap.size 5 Tryz.underlying47 info8 (.slice (some ⟨w.heap.size, 0, none⟩) 0 0) (.slice (some ad) l.length cap) [] l rfl rfl ho hr (by simpa using hl) hsz ?_); intro v' w2 ho2 hg2; rw [List.nil_append] at ho2)
      | fail)
    go_ret
    exact ⟨v', rfl, ho2, ((Below.refl _ w).alloc (Nat.le_refl _) _).grown hg2 hsz (fun k hk => by cases hk; exact Nat.le_refl _)⟩

theorem bytes_c (w : World) (B b : Nat) (v : Value) (p : List UInt8) (n : Nat) (h : BB w B b v p n) (hl : p.length ≤ 140737488355328) :
    Calls Tryz.prog 81 #[.pointer (some ⟨b, 0, none⟩)] w fun e w' => ∃ v', e = .returned v' ∧ Own 5 w' w.heap.size v' p ∧ Below w.heap.size w w' := by
  have hc0 := h.c0
  have C := Go.Lib.hid (bclone_c v p w h.row.rb hl)
  clear h
  go_enter Tryz.func81, Tryz.ntmps81
  go_wp2_with fail
  refine C.out.mono ?_
  rintro e w1 ⟨v', rfl, h1, h2⟩
  go_wp2_with fail
  go_ret
  exact ⟨v', rfl, h1, h2⟩

end Go.Proofs.YthbnecdeebmlhaaGreat

namespace Go.Proofs.YthbnecdeebmlhaaGreat
open Go.RowKit

theorem bytesFor_c (n : Nat) (w : World) (hn : n ≤ 9223372036854775807) : Calls Tryz.prog 83 #[.int .i64 (n : Int)] w fun e w' => e = .returned (.int .i64 (((n + 7) / 8 : Nat) : Int)) ∧ w = w' := by
  have hn' : (n : Int) ≤ 9223372036854775807 := by omega
  by_cases h : 0 < n % 8
  · have e1 := Go.Lib.hid (show (n + 7) / 8 = n / 8 + 1 from by omega)
    go_enter Tryz.func83, Tryz.ntmps83
    go_wp2_with fail
    go_ret
    exact ⟨by rw [e1.out]; rfl, rfl⟩
  · have e1 := Go.Lib.hid (show (n + 7) / 8 = n / 8 from by omega)
    go_enter Tryz.func83, Tryz.ntmps83
    go_wp2_with fail
    go_ret
    exact ⟨by rw [e1.out]; rfl, rfl⟩

/-- Would the bytes of n bits be just p? -/
def okP (p : List UInt8) (n : Int) : Prop := 0 ≤ n ∧ p.length = (n.toNat + 7) / 8 ∧ ∀ i, n.toNat ≤ i → i < 8 * p.length → bitAt p i = false
theorem okP_pack {p : List UInt8} {n : Nat} (h : okP p (n : Int)) : pack ((unpack p).take n) = p ∧ ((unpack p).take n).length = n := by
  obtain ⟨-, h1, h2⟩ := h
  rw [Int.toNat_natCast] at h1 h2
  refine ⟨(pack_first p n).2 ?_, by rw [List.length_take]; simp only [unpack, List.length_map, List.length_range]; omega⟩
  rcases Nat.lt_or_ge n (8 * p.length) with h | h
  · exact .inr ⟨by omega, h2⟩
  · exact .inl h
theorem last_zero (p : List UInt8) (n : Nat) (hlen : p.length = (n + 7) / 8) (hu : 0 < n % 8) (hp : p.length - 1 < p.length) :
    (p[p.length - 1].toNat * 2 ^ (n % 8) % 256 = 0) ↔ ∀ i, n ≤ i → i < 8 * p.length → bitAt p i = false := by
  have hk : p.length - 1 = n / 8 := by omega
  have hb : ∀ i, n ≤ i → i < 8 * p.length → bitAt p i = bit p[p.length - 1].toNat (7 - i % 8) := by
    intro i h1 h2
    unfold bitAt
    rw [show i / 8 = p.length - 1 from by omega, List.getD_eq_getElem?_getD, List.getElem?_eq_getElem hp]
    rfl
  generalize p[p.length - 1].toNat = c at hb ⊢
  have e : 256 = 2 ^ (8 - n % 8) * 2 ^ (n % 8) := by rw [← Nat.pow_add, show 8 - n % 8 + n % 8 = 8 from by omega]
  have hz : c * 2 ^ (n % 8) % 256 = 0 ↔ c % 2 ^ (8 - n % 8) = 0 := by
    rw [e, Nat.mul_mod_mul_right]
    constructor
    · intro h
      rcases Nat.mul_eq_zero.1 h with h | h
      · exact h
      · have : 0 < 2 ^ (n % 8) := Nat.pow_pos (by omega)
        omega
    · intro h; rw [h, Nat.zero_mul]
  rw [hz]
  constructor
  · intro h i h1 h2
    rw [hb i h1 h2, bit_test]
    have h3 := Nat.testBit_mod_two_pow c (8 - n % 8) (7 - i % 8)
    rw [h, Nat.zero_testBit, decide_eq_true (by omega), Bool.true_and] at h3
    exact h3.symm
  · intro h
    refine Nat.eq_of_testBit_eq fun j => ?_
    rw [Nat.zero_testBit, Nat.testBit_mod_two_pow]
    by_cases hj : j < 8 - n % 8
    · have h3 := h (8 * (p.length - 1) + (7 - j)) (by omega) (by omega)
      rw [hb _ (by omega) (by omega), bit_test, show 7 - (8 * (p.length - 1) + (7 - j)) % 8 = j from by omega] at h3
      rw [h3, Bool.and_false]
    · rw [decide_eq_false hj, Bool.false_and]

set_option maxRecDepth 100000 in
theorem bof_no1 (a : Option Addr) (len cap : Nat) (n : Int) (w : World) (h : n < 0) :
    Calls Tryz.prog 50 #[.slice a len cap, .int .i64 n] w fun e w' => e = .returned (.tuple #[.pointer none, .bool false]) ∧ w = w' := by
  go_enter Tryz.func50, Tryz.ntmps50
  go_wp2_with fail
  go_ret2
  exact ⟨rfl, rfl⟩
set_option maxRecDepth 100000 in
theorem bof_no2 (a : Option Addr) (len cap : Nat) (n : Nat) (w : World) (hn : n ≤ 9223372036854775807) (h : len ≠ (n + 7) / 8) :
    Calls Tryz.prog 50 #[.slice a len cap, .int .i64 (n : Int)] w fun e w' => e = .returned (.tuple #[.pointer none, .bool false]) ∧ w = w' := by
  have C := Go.Lib.hid fun W => bytesFor_c n W hn
  have hb : ((len : Int) != (((n + 7) / 8 : Nat) : Int)) = true := by simp; omega
  generalize (n + 7) / 8 = m at *
  go_enter Tryz.func50, Tryz.ntmps50
  go_wp2_with fail
  refine (C.out _).mono ?_
  rintro e w1 ⟨rfl, rfl⟩
  go_wp2_with fail
  go_ret2
  exact ⟨rfl, rfl⟩
set_option maxRecDepth 100000 in
theorem bof_no3 (a : Option Addr) (len cap : Nat) (n : Nat) (w : World) (p : List UInt8) (hr : RB w (.slice a len cap) p) (hn : n ≤ 9223372036854775807) (h : p.length = (n + 7) / 8) (hu : 0 < n % 8) (hp : p.length - 1 < p.length) (hz : p[p.length - 1].toNat * 2 ^ (n % 8) % 256 ≠ 0) :
    Calls Tryz.prog 50 #[.slice a len cap, .int .i64 (n : Int)] w fun e w' => e = .returned (.tuple #[.pointer none, .bool false]) ∧ w = w' := by
  have C0 := fun W => bytesFor_c n W hn
  rw [← h] at C0
  have C := Go.Lib.hid C0
  clear C0
  obtain ⟨rfl, hlc, hcm⟩ := hr.len
  obtain ⟨b, o, rfl, hc, hb⟩ := hr.at (p.length - 1) hp
  generalize p[p.length - 1].toNat = c at hc hz
  have hz' : ((c : Int) * 2 ^ (n % 8) % 256 != 0) = true := by
    have e : (c : Int) * 2 ^ (n % 8) = ((c * 2 ^ (n % 8) : Nat) : Int) := by simp
    rw [e]
    simp only [bne_iff_ne, ne_eq]
    omega
  have hm63 : p.length ≤ 9223372036854775807 := by unfold maxLen at hcm; omega
  clear hr h hlc hcm
  generalize p.length = len at *
  go_enter Tryz.func50, Tryz.ntmps50
  go_wp2_with fail
  refine (C.out _).mono ?_
  rintro e w1 ⟨rfl, rfl⟩
  go_wp2_with fail
  go_ret2
  exact ⟨rfl, rfl⟩

/-- A new *bits.Bits over a row that was made. -/
theorem BB.box {w0 w : World} {v : Value} {p : List UInt8} (h : Own 5 w w0.heap.size v p) (hb : Below w0.heap.size w0 w) (n : Nat) :
    BB (w.alloc (.cells #[v, .int .i64 (n : Int)] 80)) w0.heap.size w.heap.size v p n := ⟨heap_alloc_new w _, h.alloc _, hb.size⟩

set_option maxRecDepth 100000 in
theorem bof_yes (v : Value) (n : Nat) (w : World) (p : List UInt8) (hr : RB w v p) (hn : n ≤ 562949953421312) (h : okP p (n : Int)) :
    Calls Tryz.prog 50 #[v, .int .i64 (n : Int)] w fun e w' => ∃ b v', e = .returned (.tuple #[.pointer (some ⟨b, 0, none⟩), .bool true]) ∧ BT w' w.heap.size b v' ((unpack p).take n) ∧ Below w.heap.size w w' := by
  obtain ⟨hpk, hpl⟩ := okP_pack h
  obtain ⟨-, h1, h2⟩ := h
  rw [Int.toNat_natCast] at h1 h2
  have C0 := fun W => bytesFor_c n W (by omega)
  rw [← h1] at C0
  have C := Go.Lib.hid C0
  have C2 := Go.Lib.hid (bclone_c v p w hr (by omega))
  have Hpk := Go.Lib.hid hpk
  have Hpl := Go.Lib.hid hpl
  clear C0 hpk hpl
  obtain ⟨a, cap, rfl, hlc, hcm, hnone, -⟩ := id hr
  have hm63 : p.length ≤ 9223372036854775807 := by unfold maxLen at hcm; omega
  have fin : ∀ w1 v', Own 5 w1 w.heap.size v' p → Below w.heap.size w w1 → BT (w1.alloc (.cells #[v', .int .i64 (n : Int)] 80)) w.heap.size w1.heap.size v' ((unpack p).take n) ∧ Below w.heap.size w (w1.alloc (.cells #[v', .int .i64 (n : Int)] 80)) := by
    intro w1 v' ho hb
    refine ⟨?_, hb.alloc hb.size _⟩
    show BB _ _ _ _ _ _
    rw [Hpk.out, Hpl.out]
    exact BB.box ho hb n
  have Fin := Go.Lib.hid fin
  clear fin
  by_cases hu : 0 < n % 8
  · have hp : p.length - 1 < p.length := by omega
    have hz := (last_zero p n h1 hu hp).2 h2
    obtain ⟨b, o, rfl, hc, hb⟩ := hr.at (p.length - 1) hp
    generalize p[p.length - 1].toNat = c at hc hz
    have hz' : ((c : Int) * 2 ^ (n % 8) % 256 != 0) = false := by
      have e : (c : Int) * 2 ^ (n % 8) = ((c * 2 ^ (n % 8) : Nat) : Int) := by simp
      rw [e]
      simp only [bne_eq_false_iff_eq]
      omega
    clear hr h1 h2 hz hlc hcm hnone
    generalize p.length = len at *
    go_enter Tryz.func50, Tryz.ntmps50
    go_wp2_with fail
    refine (C.out _).mono ?_
    rintro e w1 ⟨rfl, rfl⟩
    go_wp2_with fail
    refine C2.out.mono ?_
    rintro e w1 ⟨v', rfl, ho, hb'⟩
    obtain ⟨a2, cap2, rfl, -⟩ := id ho.rb
    have F2 := Go.Lib.hid (Fin.out _ _ ho hb')
    clear Fin ho hb'
    go_wp2_with fail
    go_ret2
    exact ⟨_, _, rfl, F2.out⟩
  · clear hr h1 h2 hlc hcm hnone
    generalize p.length = len at *
    go_enter Tryz.func50, Tryz.ntmps50
    go_wp2_with fail
    refine (C.out _).mono ?_
    rintro e w1 ⟨rfl, rfl⟩
    go_wp2_with fail
    refine C2.out.mono ?_
    rintro e w1 ⟨v', rfl, ho, hb'⟩
    obtain ⟨a2, cap2, rfl, -⟩ := id ho.rb
    have F2 := Go.Lib.hid (Fin.out _ _ ho hb')
    clear Fin ho hb'
    go_wp2_with fail
    go_ret2
    exact ⟨_, _, rfl, F2.out⟩

/-- They would not. -/
theorem bof_no (v : Value) (n : Int) (w : World) (p : List UInt8) (hr : RB w v p) (hn : n ≤ 9223372036854775807) (h : ¬ okP p n) :
    Calls Tryz.prog 50 #[v, .int .i64 n] w fun e w' => e = .returned (.tuple #[.pointer none, .bool false]) ∧ w = w' := by
  obtain ⟨a, cap, rfl, hlc, hcm, -, -⟩ := id hr
  by_cases h0 : n < 0
  · exact bof_no1 _ _ _ _ _ h0
  obtain ⟨n, rfl⟩ : ∃ k : Nat, n = (k : Int) := ⟨n.toNat, by omega⟩
  by_cases h1 : p.length = (n + 7) / 8
  · have hu : 0 < n % 8 := by
      rcases Nat.eq_zero_or_pos (n % 8) with hu | hu
      · exact absurd ⟨by omega, by rw [Int.toNat_natCast]; exact h1, fun i h3 h4 => by rw [Int.toNat_natCast] at h3; omega⟩ h
      · exact hu
    have hp : p.length - 1 < p.length := by omega
    refine bof_no3 a _ cap n w p hr (by omega) h1 hu hp fun hz => h ⟨by omega, by rw [Int.toNat_natCast]; exact h1, ?_⟩
    rw [Int.toNat_natCast]
    exact (last_zero p n h1 hu hp).1 hz
  · exact bof_no2 a _ cap n w (by omega) h1

end Go.Proofs.YthbnecdeebmlhaaGreat

namespace Go.Proofs.YthbnecdeebmlhaaGreat
open Go.RowKit

def zeroT : TabT := fun _ => (false, nullR)
def entB (x : RecT) : List UInt8 := UInt8.ofNat (tagN (hR x) / 256) :: UInt8.ofNat (tagN (hR x) % 256) :: recT x
def hasL (TT : TabT) (n : Nat) : List Bool := (List.range n).map fun q => (TT q).1
def bodyB (TT : TabT) (n : Nat) : List UInt8 := (recsT TT n).flatMap entB
def tabB (TT : TabT) : List UInt8 := pack (hasL TT 32) ++ bodyB TT 32
theorem hasL_len (TT : TabT) (n : Nat) : (hasL TT n).length = n := by simp [hasL]
theorem hasL_at (TT : TabT) (n i : Nat) (h : i < (hasL TT n).length) : (hasL TT n)[i] = (TT i).1 := by simp [hasL]
theorem hasL_succ (TT : TabT) (n : Nat) : hasL TT (n + 1) = hasL TT n ++ [(TT n).1] := by simp [hasL, List.range_succ]
theorem bodyB_succ (TT : TabT) (n : Nat) : bodyB TT (n + 1) = bodyB TT n ++ (if (TT n).1 then entB (TT n).2 else []) := by
  unfold bodyB
  rw [recsT_succ, List.flatMap_append]
  cases (TT n).1 <;> simp
theorem headB_len (TT : TabT) : (pack (hasL TT 32)).length = 4 := by rw [pack_length, hasL_len]

/-- A table's slots are as a table's records are: numbers that fit. -/
def TabOk (TT : TabT) : Prop := ∀ q, q < 32 → RecOk (TT q).2
/-- The entry at the beginning. -/
def getE (l : List UInt8) : Option (RecT × Nat) :=
  if l.length < 2 then none
  else if (readB (l.drop 2)).2.2 ≠ 0 ∨ (l.getD 0 0).toNat * 256 + (l.getD 1 0).toNat ≠ tagN (hR (unR (readB (l.drop 2)).1)) then none
  else some (unR (readB (l.drop 2)).1, 2 + (readB (l.drop 2)).2.1)
def decGo (bs : List Bool) (l : List UInt8) : Nat → Option (TabT × Nat)
  | 0 => some (zeroT, 4)
  | n + 1 => match decGo bs l n with
    | none => none
    | some (TT, k) => if bs.getD n false then (match getE (l.drop k) with | none => none | some (r, m) => some (setT TT n (true, r), k + m)) else some (TT, k)
def decR (bs : List Bool) (l : List UInt8) : Option TabT := match decGo bs l 32 with
  | none => none
  | some (TT, k) => if k < l.length then none else if okTo TT 32 then some TT else none
def decT (l : List UInt8) : Option TabT := if 4 ≤ l.length then decR ((unpack (l.take 4)).take 32) l else none

theorem byte_two (a b : UInt8) (t : Nat) (h : a.toNat * 256 + b.toNat = t) : UInt8.ofNat (t / 256) = a ∧ UInt8.ofNat (t % 256) = b := by
  have ha := a.toNat_lt
  have hb := b.toNat_lt
  have e1 : t / 256 = a.toNat := by omega
  have e2 : t % 256 = b.toNat := by omega
  rw [e1, e2]
  exact ⟨UInt8.ofNat_toNat, UInt8.ofNat_toNat⟩
theorem getE_some {l : List UInt8} {r : RecT} {m : Nat} (h : getE l = some (r, m)) : mayT r = true ∧ RecOk r ∧ l = entB r ++ l.drop m ∧ m = (entB r).length ∧ m ≤ l.length := by
  unfold getE at h
  split at h
  · cases h
  · rename_i h2
    split at h
    · cases h
    · rename_i h3
      simp only [not_or, ne_eq, Decidable.not_not] at h3
      obtain ⟨h3, h4⟩ := h3
      simp only [Option.some.injEq, Prod.mk.injEq] at h
      obtain ⟨rfl, rfl⟩ := h
      rcases hr : readB (l.drop 2) with ⟨r0, p, e⟩
      rw [hr] at h3 h4
      simp only [] at h3 h4
      subst h3
      obtain ⟨c1, c2, c3, c4⟩ := readB_canon hr
      rcases l with _ | ⟨a, _ | ⟨b, t⟩⟩
      · simp at h2
      · simp at h2
      · simp only [List.drop_succ_cons, List.drop_zero, List.getD_cons_zero, List.getD_cons_succ] at c3 c4 h4 hr ⊢
        obtain ⟨e1, e2⟩ := byte_two a b _ h4
        have hlen : p = (recT (unR r0)).length := by
          have h5 := congrArg List.length c3
          rw [List.length_append, List.length_drop] at h5
          omega
        have hm : 2 + p = (entB (unR r0)).length := by unfold entB; simp only [List.length_cons]; omega
        refine ⟨c1, c2, ?_, hm, by simp only [List.length_cons]; omega⟩
        unfold entB
        rw [e1, e2, Nat.add_comm 2 p]
        simp only [List.drop_succ_cons, List.cons_append]
        rw [← c3]
theorem getE_put {x : RecT} (h : mayT x = true) (hok : RecOk x) (r : List UInt8) : getE (entB x ++ r) = some (x, (entB x).length) := by
  obtain ⟨y, h1, h2⟩ := readT_put h hok r
  have ht : tagN (hR x) < 32768 := tag_lt _
  unfold getE entB
  simp only [List.cons_append, List.drop_succ_cons, List.drop_zero, List.getD_cons_zero, List.getD_cons_succ, List.length_cons, List.length_append]
  rw [h1]
  simp only []
  rw [h2, if_neg (by omega), if_neg]
  · simp only [Option.some.injEq, Prod.mk.injEq, true_and]
    omega
  · simp only [not_or, ne_eq, Decidable.not_not]
    refine ⟨trivial, ?_⟩
    simp only [UInt8.toNat_ofNat']
    omega

theorem recs_congr {TT UU : TabT} : ∀ n, (∀ q, q < n → TT q = UU q) → recsT TT n = recsT UU n
  | 0, _ => rfl
  | n + 1, h => by rw [recsT_succ, recsT_succ, recs_congr n (fun q hq => h q (by omega)), h n (by omega)]
theorem body_congr {TT UU : TabT} (n : Nat) (h : ∀ q, q < n → TT q = UU q) : bodyB TT n = bodyB UU n := by unfold bodyB; rw [recs_congr n h]
theorem tabL_congr {TT UU : TabT} : ∀ n, (∀ q, q < n → TT q = UU q) → tabL TT n = tabL UU n
  | 0, _ => rfl
  | n + 1, h => by rw [tabL_succ, tabL_succ, tabL_congr n (fun q hq => h q (by omega)), h n (by omega)]
theorem ok_congr {TT UU : TabT} : ∀ n, (∀ q, q < n → TT q = UU q) → okTo TT n = okTo UU n
  | 0, _ => rfl
  | n + 1, h => by
    rw [okTo_succ, okTo_succ, ok_congr n (fun q hq => h q (by omega))]
    unfold okSlot keysT
    have : (List.range n).filterMap (hasT TT) = (List.range n).filterMap (hasT UU) := recs_congr n (fun q hq => h q (by omega))
    rw [this, h n (by omega)]
theorem hasL_congr {TT UU : TabT} (n : Nat) (h : ∀ q, q < n → TT q = UU q) : hasL TT n = hasL UU n := by
  unfold hasL
  apply List.map_congr_left
  intro q hq
  rw [h q (List.mem_range.1 hq)]
/-- What the reader has, slot for slot. -/
structure DecI (bs : List Bool) (l : List UInt8) (n : Nat) (TT : TabT) (k : Nat) : Prop where
  le : k ≤ l.length
  ge : 4 ≤ k
  got : l.take k = l.take 4 ++ bodyB TT n
  has : ∀ q, q < n → (TT q).1 = bs.getD q false
  out : ∀ q, n ≤ q → TT q = (false, nullR)
  rec_ok : ∀ q, (TT q).1 = true → mayT (TT q).2 = true ∧ RecOk (TT q).2
  nul : ∀ q, (TT q).1 = false → (TT q).2 = nullR
theorem setT_old (TT : TabT) (n : Nat) (y : Bool × RecT) {q : Nat} (h : q ≠ n) : setT TT n y q = TT q := if_neg h
theorem setT_new (TT : TabT) (n : Nat) (y : Bool × RecT) : setT TT n y n = y := if_pos rfl
theorem takeE_more {l : List UInt8} {k m : Nat} {e : List UInt8} (h : l.drop k = e ++ (l.drop k).drop m) (hm : m = e.length) (_hl : m ≤ (l.drop k).length) : l.take (k + m) = l.take k ++ e := by
  rw [List.take_add]
  congr 1
  rw [h, hm, List.take_left']
  rfl
theorem decGo_inv (bs : List Bool) (l : List UInt8) (h4 : 4 ≤ l.length) : ∀ (n : Nat) (TT : TabT) (k : Nat), decGo bs l n = some (TT, k) → DecI bs l n TT k
  | 0, TT, k, h => by
    simp only [decGo, Option.some.injEq, Prod.mk.injEq] at h
    obtain ⟨rfl, rfl⟩ := h
    exact ⟨h4, Nat.le_refl _, by simp [bodyB, recsT], (fun q hq => absurd hq (by omega)), (fun q _ => rfl), (fun q hq => by cases hq), fun q _ => rfl⟩
  | n + 1, TT, k, h => by
    rw [decGo] at h
    cases hd : decGo bs l n with
    | none => rw [hd] at h; cases h
    | some p =>
      obtain ⟨UU, j⟩ := p
      have I := decGo_inv bs l h4 n UU j hd
      rw [hd] at h
      simp only [] at h
      cases hb : bs.getD n false with
      | false =>
        rw [hb] at h
        simp only [Bool.false_eq_true, if_false, Option.some.injEq, Prod.mk.injEq] at h
        obtain ⟨rfl, rfl⟩ := h
        have hn := I.out n (Nat.le_refl _)
        refine ⟨I.le, I.ge, ?_, fun q hq => ?_, fun q hq => I.out q (by omega), I.rec_ok, I.nul⟩
        · rw [bodyB_succ, hn]; simpa using I.got
        · rcases Nat.lt_or_ge q n with h2 | h2
          · exact I.has q h2
          · obtain rfl : q = n := by omega
            rw [hn, hb]
      | true =>
        rw [hb] at h
        simp only [if_true] at h
        cases hg : getE (l.drop j) with
        | none => rw [hg] at h; cases h
        | some p =>
          obtain ⟨r, m⟩ := p
          rw [hg] at h
          simp only [Option.some.injEq, Prod.mk.injEq] at h
          obtain ⟨rfl, rfl⟩ := h
          obtain ⟨g1, g2, g3, g4, g5⟩ := getE_some hg
          have hl := I.le
          rw [List.length_drop] at g5
          refine ⟨by omega, by have := I.ge; omega, ?_, fun q hq => ?_, fun q hq => ?_, fun q hq => ?_, fun q hq => ?_⟩
          · rw [bodyB_succ, setT_new, body_congr n (fun q hq => setT_old UU n _ (by omega : q ≠ n)), takeE_more g3 g4 (by rw [List.length_drop]; omega), I.got]
            simp
          · rcases Nat.lt_or_ge q n with h2 | h2
            · rw [setT_old UU n _ (by omega)]; exact I.has q h2
            · obtain rfl : q = n := by omega
              rw [setT_new, hb]
          · rw [setT_old UU n _ (by omega)]; exact I.out q (by omega)
          · by_cases e : q = n
            · subst e; rw [setT_new]; exact ⟨g1, g2⟩
            · rw [setT_old UU n _ e] at hq ⊢; exact I.rec_ok q hq
          · by_cases e : q = n
            · subst e; rw [setT_new] at hq; cases hq
            · rw [setT_old UU n _ e] at hq ⊢; exact I.nul q hq
theorem decGo_none {bs : List Bool} {l : List UInt8} {n : Nat} (h : decGo bs l n = none) : ∀ j, decGo bs l (n + j) = none
  | 0 => h
  | j + 1 => by rw [show n + (j + 1) = (n + j) + 1 by omega, decGo, decGo_none h j]
theorem decR_none {bs : List Bool} {l : List UInt8} {n : Nat} (h : decGo bs l n = none) (hn : n ≤ 32) : decR bs l = none := by
  unfold decR
  have := decGo_none h (32 - n)
  rw [show n + (32 - n) = 32 by omega] at this
  rw [this]
theorem decGo_skip {bs : List Bool} {l : List UInt8} {n k : Nat} {TT : TabT} (h : decGo bs l n = some (TT, k)) (hb : bs.getD n false = false) : decGo bs l (n + 1) = some (TT, k) := by
  rw [decGo, h]
  simp only [hb, Bool.false_eq_true, if_false]
theorem decGo_stop {bs : List Bool} {l : List UInt8} {n k : Nat} {TT : TabT} (h : decGo bs l n = some (TT, k)) (hb : bs.getD n false = true) (hg : getE (l.drop k) = none) : decGo bs l (n + 1) = none := by
  rw [decGo, h]
  simp only [hb, if_true, hg]
theorem decGo_more {bs : List Bool} {l : List UInt8} {n k m : Nat} {TT : TabT} {r : RecT} (h : decGo bs l n = some (TT, k)) (hb : bs.getD n false = true) (hg : getE (l.drop k) = some (r, m)) : decGo bs l (n + 1) = some (setT TT n (true, r), k + m) := by
  rw [decGo, h]
  simp only [hb, if_true, hg]
theorem okP4 {l : List UInt8} : okP (l.take 4) (32 : Int) ↔ 4 ≤ l.length := by
  unfold okP
  rw [List.length_take]
  constructor
  · rintro ⟨-, h, -⟩
    simp at h
    omega
  · intro h
    refine ⟨by decide, by simp; omega, fun i h1 h2 => ?_⟩
    simp at h1
    omega
theorem decT_none {l : List UInt8} (h : ¬ 4 ≤ l.length) : decT l = none := by unfold decT; rw [if_neg h]
theorem nullOk : RecOk nullR := by unfold nullR; unfold RecOk; decide
theorem recOk_null_size : nullR.1.size ≤ 1000 ∧ nullR.2.2.2.2.size ≤ 1000 := by decide
theorem DecI.sizes {bs : List Bool} {l : List UInt8} {n : Nat} {TT : TabT} {k : Nat} (I : DecI bs l n TT k) (q : Nat) : (TT q).2.1.size ≤ 1000 ∧ (TT q).2.2.2.2.2.size ≤ 1000 := by
  cases h : (TT q).1 with
  | true => have := mayT_short (I.rec_ok q h).1; omega
  | false => rw [I.nul q h]; exact recOk_null_size
theorem DecI.ok {bs : List Bool} {l : List UInt8} {n : Nat} {TT : TabT} {k : Nat} (I : DecI bs l n TT k) : TabOk TT := fun q _ => by
  cases h : (TT q).1 with
  | true => exact (I.rec_ok q h).2
  | false => rw [I.nul q h]; exact nullOk
theorem decT_some {l : List UInt8} {TT : TabT} (h : decT l = some TT) : okTo TT 32 = true ∧ tabB TT = l ∧ TabOk TT ∧ ∀ q, (TT q).2.1.size ≤ 1000 ∧ (TT q).2.2.2.2.2.size ≤ 1000 := by
  unfold decT at h
  split at h
  · rename_i h4
    have hp := okP_pack (n := 32) (okP4.2 h4)
    unfold decR at h
    split at h
    · cases h
    · rename_i UU k hd
      have I := decGo_inv _ l h4 32 UU k hd
      split at h
      · cases h
      · rename_i hk
        split at h
        · rename_i hok
          cases h
          refine ⟨hok, ?_, I.ok, I.sizes⟩
          have hg := I.got
          rw [List.take_of_length_le (by have := I.le; omega)] at hg
          have he : hasL TT 32 = (unpack (l.take 4)).take 32 := by
            apply List.ext_getElem
            · rw [hasL_len]; exact hp.2.symm
            · intro i h1 h2
              rw [hasL_len] at h1
              have := I.has i h1
              rw [hasL_at, this, List.getD_eq_getElem?_getD, List.getElem?_eq_getElem h2]
              rfl
          unfold tabB
          rw [he, hp.1]
          exact hg.symm
        · cases h
  · cases h

/-! ### What was written is read. -/
def cutT (TT : TabT) (n : Nat) : TabT := fun q => if q < n then TT q else (false, nullR)
theorem cutT_old (TT : TabT) {n q : Nat} (h : q < n) : cutT TT n q = TT q := if_pos h
theorem cutT_set (TT : TabT) (n : Nat) : setT (cutT TT n) n (TT n) = cutT TT (n + 1) := by
  funext q
  unfold setT cutT
  by_cases h1 : q = n
  · subst h1; rw [if_pos rfl, if_pos (by omega)]
  · rw [if_neg h1]
    by_cases h2 : q < n
    · rw [if_pos h2, if_pos (by omega)]
    · rw [if_neg h2, if_neg (by omega)]
theorem cutT_skip (TT : TabT) (n : Nat) (h : TT n = (false, nullR)) : cutT TT n = cutT TT (n + 1) := by
  funext q
  unfold cutT
  by_cases h2 : q < n
  · rw [if_pos h2, if_pos (by omega)]
  · rw [if_neg h2]
    by_cases h1 : q = n
    · subst h1; rw [if_pos (by omega), h]
    · rw [if_neg (by omega)]
theorem okTo_slot {TT : TabT} (h : okTo TT 32 = true) {q : Nat} (hq : q < 32) : ((TT q).1 = true → mayT (TT q).2 = true) ∧ ((TT q).1 = false → (TT q).2 = nullR) := by
  unfold okTo at h
  have h := List.all_eq_true.1 h q (List.mem_range.2 hq)
  unfold okSlot at h
  refine ⟨fun h1 => ?_, fun h1 => ?_⟩
  · rw [h1] at h
    simp only [if_true, Bool.and_eq_true] at h
    exact h.1.1
  · rw [h1] at h
    simpa using h
theorem body_split (TT : TabT) : ∀ (n : Nat), n ≤ 32 → ∃ r, bodyB TT 32 = bodyB TT n ++ r ∧ (n < 32 → r = (if (TT n).1 then entB (TT n).2 else []) ++ r.drop (if (TT n).1 then entB (TT n).2 else []).length) := by
  have key : ∀ m n, n + m = 32 → ∃ r, bodyB TT 32 = bodyB TT n ++ r := by
    intro m
    induction m with
    | zero => intro n h; obtain rfl : n = 32 := by omega
              exact ⟨[], by simp⟩
    | succ m ih =>
      intro n h
      obtain ⟨r, hr⟩ := ih (n + 1) (by omega)
      rw [bodyB_succ TT n, List.append_assoc] at hr
      exact ⟨_, hr⟩
  intro n hn
  rcases Nat.lt_or_ge n 32 with h | h
  · obtain ⟨r, hr⟩ := key (32 - (n + 1)) (n + 1) (by omega)
    rw [bodyB_succ TT n, List.append_assoc] at hr
    exact ⟨_, hr, fun _ => by rw [List.drop_left']; rfl⟩
  · obtain rfl : n = 32 := by omega
    exact ⟨[], by simp, fun h => absurd h (by omega)⟩
theorem decGo_put {TT : TabT} (h : okTo TT 32 = true) (hok : TabOk TT) : ∀ n, n ≤ 32 → decGo (hasL TT 32) (tabB TT) n = some (cutT TT n, 4 + (bodyB TT n).length)
  | 0, _ => by
    rw [decGo]
    simp only [bodyB, recsT, List.range_zero, List.filterMap_nil, List.flatMap_nil, List.length_nil, Nat.add_zero, Option.some.injEq, Prod.mk.injEq, and_true]
    funext q
    unfold cutT zeroT
    rw [if_neg (by omega)]
  | n + 1, hn => by
    rw [decGo, decGo_put h hok n (by omega)]
    simp only []
    have hb : (hasL TT 32).getD n false = (TT n).1 := by
      unfold hasL
      rw [List.getD_eq_getElem?_getD, List.getElem?_map, List.getElem?_range (by omega)]
      rfl
    obtain ⟨m1, m2⟩ := okTo_slot h (show n < 32 by omega)
    obtain ⟨r, hr, hr2⟩ := body_split TT n (by omega)
    have hd : (tabB TT).drop (4 + (bodyB TT n).length) = r := by
      unfold tabB
      rw [hr, ← List.append_assoc, List.drop_left']
      rw [List.length_append, headB_len]
    rw [hb, bodyB_succ TT n, List.length_append]
    cases hq : (TT n).1 with
    | false =>
      have he : TT n = (false, nullR) := Prod.ext hq (m2 hq)
      simp only [Bool.false_eq_true, if_false, List.length_nil, Nat.add_zero, Option.some.injEq, Prod.mk.injEq, and_true]
      exact cutT_skip TT n he
    | true =>
      simp only [if_true]
      have hr3 := hr2 (by omega)
      rw [hq] at hr3
      simp only [if_true] at hr3
      rw [hd, hr3, getE_put (m1 hq) (hok n (by omega))]
      simp only [Option.some.injEq, Prod.mk.injEq]
      refine ⟨?_, by omega⟩
      have he : (true, (TT n).2) = TT n := Prod.ext hq.symm rfl
      rw [he]
      exact cutT_set TT n
theorem unpack_head (TT : TabT) : (unpack ((tabB TT).take 4)).take 32 = hasL TT 32 := by
  have e : (tabB TT).take 4 = pack (hasL TT 32) := by
    unfold tabB
    rw [List.take_left']
    exact headB_len TT
  rw [e]
  apply List.ext_getElem
  · rw [List.length_take, hasL_len]
    simp [unpack, headB_len]
  · intro i h1 h2
    rw [hasL_len] at h2
    rw [List.getElem_take]
    have e2 : ∀ h, (unpack (pack (hasL TT 32)))[i]'h = bitAt (pack (hasL TT 32)) i := fun h => by simp [unpack]
    rw [e2, bitAt_pack, List.getD_eq_getElem?_getD, List.getElem?_eq_getElem (by rw [hasL_len]; exact h2)]
    rfl
theorem tabB_len4 (TT : TabT) : 4 ≤ (tabB TT).length := by
  unfold tabB
  rw [List.length_append, headB_len]
  omega
theorem decT_put {TT : TabT} (h : okTo TT 32 = true) (hok : TabOk TT) : decT (tabB TT) = some (cutT TT 32) := by
  unfold decT
  rw [if_pos (tabB_len4 TT), unpack_head]
  unfold decR
  rw [decGo_put h hok 32 (Nat.le_refl _)]
  simp only []
  rw [if_neg (by unfold tabB; rw [List.length_append, headB_len]; omega), if_pos]
  rw [ok_congr (UU := TT) 32 (fun q hq => cutT_old TT hq)]
  exact h
theorem bodyB_len {TT : TabT} (h : okTo TT 32 = true) (hok : TabOk TT) : ∀ n, n ≤ 32 → (bodyB TT n).length ≤ 202 * n
  | 0, _ => by simp [bodyB, recsT]
  | n + 1, hn => by
    have ih := bodyB_len h hok n (by omega)
    rw [bodyB_succ, List.length_append]
    cases hq : (TT n).1 with
    | false => simp; omega
    | true =>
      have := (recT_len ((okTo_slot h (show n < 32 by omega)).1 hq) (hok n (by omega))).2
      simp only [if_true]
      unfold entB
      simp only [List.length_cons]
      omega
end Go.Proofs.YthbnecdeebmlhaaGreat

namespace Go.Proofs.YthbnecdeebmlhaaGreat

/-- How many binary digits. -/
def digits (x : Nat) : Nat := if x = 0 then 0 else Nat.log2 x + 1
theorem digits_zero : digits 0 = 0 := rfl
theorem digits_bounds (x : Nat) (h : x ≠ 0) : 2 ^ (digits x - 1) ≤ x ∧ x < 2 ^ digits x ∧ 1 ≤ digits x := by
  unfold digits
  rw [if_neg h, Nat.add_sub_cancel]
  exact ⟨Nat.log2_self_le h, Nat.lt_log2_self, by omega⟩
theorem digits_eq {x k : Nat} (h0 : 2 ^ k ≤ x) (h1 : x < 2 ^ (k + 1)) : digits x = k + 1 := by
  have hp : 0 < 2 ^ k := Nat.pow_pos (by omega)
  have hx : x ≠ 0 := by omega
  obtain ⟨a, b, c⟩ := digits_bounds x hx
  have h2 : k < digits x := (Nat.pow_lt_pow_iff_right (by omega : 1 < 2)).1 (Nat.lt_of_le_of_lt h0 b)
  have h3 : digits x - 1 < k + 1 := (Nat.pow_lt_pow_iff_right (by omega : 1 < 2)).1 (Nat.lt_of_le_of_lt a h1)
  omega
theorem digits_half (x : Nat) (h : x ≠ 0) : digits x = digits (x / 2) + 1 := by
  obtain ⟨a, b, c⟩ := digits_bounds x h
  by_cases h2 : x / 2 = 0
  · rw [h2, digits_zero]
    have : x = 1 := by omega
    subst this
    exact digits_eq (k := 0) (by decide) (by decide)
  · have hd : 2 ≤ digits x := by
      rcases Nat.lt_or_ge (digits x) 2 with h3 | h3
      · have : digits x = 1 := by omega
        rw [this] at b
        omega
      · exact h3
    have e1 : 2 ^ (digits x - 1) = 2 * 2 ^ (digits x - 2) := by rw [← Nat.pow_succ']; congr 1; omega
    have e2 : 2 ^ digits x = 2 * 2 ^ (digits x - 1) := by rw [← Nat.pow_succ']; congr 1; omega
    have := digits_eq (x := x / 2) (k := digits x - 2) (by omega) (by rw [show digits x - 2 + 1 = digits x - 1 from by omega]; omega)
    omega
theorem digits_64 (x : Nat) (h : x < 18446744073709551616) : digits x ≤ 64 := by
  by_cases h0 : x = 0
  · subst h0; decide
  · obtain ⟨a, b, c⟩ := digits_bounds x h0
    have : 2 ^ (digits x - 1) < 2 ^ 64 := Nat.lt_of_le_of_lt a h
    have := (Nat.pow_lt_pow_iff_right (by omega : 1 < 2)).1 this
    omega
/-- How many of the first i are set. -/
def ones (l : List Bool) (i : Nat) : Nat := (l.take i).count true
theorem ones_zero (l : List Bool) : ones l 0 = 0 := rfl
theorem ones_succ (l : List Bool) (i : Nat) (h : i < l.length) : ones l (i + 1) = ones l i + bv l[i] := by
  unfold ones
  rw [List.take_succ_eq_append_getElem h, List.count_append]
  cases l[i] <;> rfl
theorem ones_all (l : List Bool) (i : Nat) (h : l.length ≤ i) : ones l i = l.count true := by
  unfold ones
  rw [List.take_of_length_le h]
theorem ones_le (l : List Bool) (i : Nat) : ones l i ≤ i := by
  unfold ones
  exact Nat.le_trans List.count_le_length (List.length_take_le _ _)
theorem ones_mono (l : List Bool) {i j : Nat} (h : i ≤ j) : ones l i ≤ ones l j := by
  unfold ones
  exact List.Sublist.count_le _ (List.take_sublist_take_left h)
/-- Where the n-th one that is set stands. -/
def place (l : List Bool) (n : Nat) : Option Nat := (List.range l.length).find? fun i => l.getD i false && ones l i == n
theorem place_some {l : List Bool} {n i : Nat} (h : place l n = some i) : i < l.length ∧ l.getD i false = true ∧ ones l i = n := by
  have h1 := List.find?_some h
  have h2 := List.mem_of_find?_eq_some h
  rw [List.mem_range] at h2
  rw [Bool.and_eq_true, beq_iff_eq] at h1
  exact ⟨h2, h1.1, h1.2⟩
theorem place_at (l : List Bool) (i : Nat) (h : i < l.length) (hi : l[i] = true) : place l (ones l i) = some i := by
  cases hp : place l (ones l i) with
  | none =>
    have := List.find?_eq_none.1 hp i (List.mem_range.2 h)
    simp [List.getD_eq_getElem?_getD, h, hi] at this
  | some j =>
    obtain ⟨h1, h2, h3⟩ := place_some hp
    have hj : l[j] = true := by simpa [List.getD_eq_getElem?_getD, h1] using h2
    rcases Nat.lt_trichotomy i j with hij | hij | hij
    · have := ones_mono l (show i + 1 ≤ j from hij)
      rw [ones_succ l i h, hi] at this
      simp [bv] at this
      omega
    · rw [hij]
    · have := ones_mono l (show j + 1 ≤ i from hij)
      rw [ones_succ l j h1, hj] at this
      simp [bv] at this
      omega
theorem place_none (l : List Bool) (n : Nat) : place l n = none ↔ l.count true ≤ n := by
  constructor
  · intro h
    rcases Nat.lt_or_ge n (l.count true) with hlt | hge
    · exfalso
      have key : ∀ k, k ≤ l.length → n < ones l k → False := by
        intro k
        induction k with
        | zero => intro _ h0; rw [ones_zero] at h0; omega
        | succ k ih =>
          intro hk h0
          rw [ones_succ l k (by omega)] at h0
          rcases Nat.lt_or_ge n (ones l k) with h1 | h1
          · exact ih (by omega) h1
          · cases hb : l[k] with
            | false => rw [hb] at h0; simp [bv] at h0; omega
            | true =>
              rw [hb] at h0
              have : ones l k = n := by simp [bv] at h0; omega
              have hp := place_at l k (by omega) hb
              rw [this, h] at hp
              cases hp
      exact key l.length (Nat.le_refl _) (by rw [ones_all l _ (Nat.le_refl _)]; exact hlt)
    · exact hge
  · intro h
    cases hp : place l n with
    | none => rfl
    | some i =>
      obtain ⟨h1, h2, h3⟩ := place_some hp
      have hi : l[i] = true := by simpa [List.getD_eq_getElem?_getD, h1] using h2
      have := ones_mono l (show i + 1 ≤ l.length from h1)
      rw [ones_succ l i h1, hi, ones_all l _ (Nat.le_refl _)] at this
      simp [bv] at this
      omega

end Go.Proofs.YthbnecdeebmlhaaGreat

namespace Go.Proofs.YthbnecdeebmlhaaGreat

def onesI (l : List Bool) (i : Int) : Nat := if i < 0 then 0 else ones l i.toNat
def placeI (l : List Bool) (n : Int) : Int := if n < 0 then -1 else match place l n.toNat with | some p => (p : Int) | none => -1
theorem onesI_nat (l : List Bool) (i : Nat) : onesI l (i : Int) = ones l i := by
  unfold onesI
  rw [if_neg (by omega), Int.toNat_natCast]
theorem placeI_some {l : List Bool} {n p : Nat} (h : place l n = some p) : placeI l (n : Int) = (p : Int) := by
  unfold placeI
  rw [if_neg (by omega), Int.toNat_natCast, h]
theorem placeI_none {l : List Bool} {n : Nat} (h : place l n = none) : placeI l (n : Int) = -1 := by
  unfold placeI
  rw [if_neg (by omega), Int.toNat_natCast, h]
theorem placeI_neg {l : List Bool} {n : Int} (h : n < 0) : placeI l n = -1 := by
  unfold placeI
  rw [if_pos h]
theorem ones_len (l : List Bool) : ones l l.length = l.count true := ones_all l _ (Nat.le_refl _)

end Go.Proofs.YthbnecdeebmlhaaGreat

namespace Go.Proofs.YthbnecdeebmlhaaGreat
open Go.RowKit

theorem range_app (a : Nat) : ∀ n, List.range (a + n) = List.range a ++ (List.range n).map fun i => a + i
  | 0 => by simp
  | n + 1 => by rw [← Nat.add_assoc, List.range_succ, range_app a n, List.range_succ, List.map_append, ← List.append_assoc]; rfl
theorem ones_has (TT : TabT) : ∀ (m n : Nat), n ≤ m → ones (hasL TT m) n = (recsT TT n).length
  | m, 0, _ => rfl
  | m, n + 1, h => by
    rw [ones_succ _ n (by rw [hasL_len]; omega), ones_has TT m n (by omega), hasL_at, recsT_succ]
    cases (TT n).1 <;> simp [bv]

/-! ### A bucket's records. -/
def bktT (TT : TabT) (b : Nat) : List RecT := (List.range 4).filterMap fun s => hasT TT (4 * b + s)
theorem recsT_bkt (TT : TabT) (b : Nat) : recsT TT (4 * b + 4) = recsT TT (4 * b) ++ bktT TT b := by
  unfold recsT bktT
  rw [range_app (4 * b) 4, List.filterMap_append, List.filterMap_map]
  rfl
theorem recsT_more (TT : TabT) (n m : Nat) : ∃ r, recsT TT (n + m) = recsT TT n ++ r := by
  unfold recsT
  rw [range_app n m, List.filterMap_append]
  exact ⟨_, rfl⟩
theorem bkt_cut (TT : TabT) {b : Nat} (hb : b < 8) : ((recsT TT 32).take (recsT TT (4 * b + 4)).length).drop (recsT TT (4 * b)).length = bktT TT b := by
  obtain ⟨r, hr⟩ := recsT_more TT (4 * b + 4) (28 - 4 * b)
  rw [show 4 * b + 4 + (28 - 4 * b) = 32 by omega] at hr
  rw [hr, List.take_left, recsT_bkt, List.drop_left]
theorem bkt_len (TT : TabT) (b : Nat) : (bktT TT b).length ≤ 4 := by
  unfold bktT
  exact Nat.le_trans (List.length_filterMap_le _ _) (by simp)
theorem recsT_flat (TT : TabT) : ∀ n, recsT TT (4 * n) = (List.range n).flatMap (bktT TT)
  | 0 => rfl
  | n + 1 => by rw [show 4 * (n + 1) = 4 * n + 4 by omega, recsT_bkt, recsT_flat TT n, List.range_succ, List.flatMap_append]; simp
theorem bkt_lie {TT : TabT} (h : okTo TT 32 = true) {b : Nat} (hb : b < 8) {x : RecT} (hx : x ∈ bktT TT b) : mayT x = true ∧ (b = firstN (hR x) ∨ b = othN (firstN (hR x)) (tagN (hR x))) := by
  obtain ⟨s, hs, he⟩ := List.mem_filterMap.1 hx
  have hs := List.mem_range.1 hs
  unfold hasT at he
  split at he
  · rename_i h1
    cases he
    have hq := (List.all_eq_true.1 (show (List.range 32).all (okSlot TT) = true from h)) (4 * b + s) (List.mem_range.2 (by omega))
    unfold okSlot at hq
    rw [if_pos h1, show (4 * b + s) / 4 = b by omega] at hq
    simp only [Bool.and_eq_true, Bool.or_eq_true, beq_iff_eq] at hq
    exact hq.1
  · cases he

/-! ### Those alike to a key. -/
def alikeT (TT : TabT) (k : ByteArray) : List RecT := (bktT TT (firstN (hashS k)) ++ bktT TT (othN (firstN (hashS k)) (tagN (hashS k)))).filter fun x => decide (tagN (hR x) = tagN (hashS k))
theorem flat_two {α : Type} {F : Nat → List α} {a b : Nat} (hab : a ≠ b) (h : ∀ i, i ≠ a → i ≠ b → F i = []) : ∀ n, ((List.range n).flatMap F).Perm ((if a < n then F a else []) ++ (if b < n then F b else []))
  | 0 => by simp
  | n + 1 => by
    rw [List.range_succ, List.flatMap_append]
    simp only [List.flatMap_cons, List.flatMap_nil, List.append_nil]
    refine ((flat_two hab h n).append_right _).trans ?_
    by_cases ha : n = a
    · subst ha
      rw [if_neg (Nat.lt_irrefl _), if_pos (Nat.lt_succ_self n), List.nil_append]
      rw [show (if b < n + 1 then F b else []) = (if b < n then F b else []) from by
        by_cases hbn : b < n
        · rw [if_pos hbn, if_pos (by omega)]
        · rw [if_neg hbn, if_neg (by omega)]]
      exact List.perm_append_comm
    · by_cases hb : n = b
      · subst hb
        rw [if_neg (Nat.lt_irrefl _), if_pos (Nat.lt_succ_self n), List.append_nil]
        rw [show (if a < n + 1 then F a else []) = (if a < n then F a else []) from by
          by_cases hbn : a < n
          · rw [if_pos hbn, if_pos (by omega)]
          · rw [if_neg hbn, if_neg (by omega)]]
      · rw [h n ha hb, List.append_nil]
        rw [show (if a < n + 1 then F a else []) = (if a < n then F a else []) from by
          by_cases hbn : a < n
          · rw [if_pos hbn, if_pos (by omega)]
          · rw [if_neg hbn, if_neg (by omega)]]
        rw [show (if b < n + 1 then F b else []) = (if b < n then F b else []) from by
          by_cases hbn : b < n
          · rw [if_pos hbn, if_pos (by omega)]
          · rw [if_neg hbn, if_neg (by omega)]]
theorem flat_congr {α β : Type} {F G : α → List β} : ∀ {l : List α}, (∀ x ∈ l, F x = G x) → l.flatMap F = l.flatMap G
  | [], _ => rfl
  | x :: l, h => by
    rw [List.flatMap_cons, List.flatMap_cons, h x (by simp), flat_congr (l := l) fun y hy => h y (by simp [hy])]
theorem filter_none' {l : List RecT} {p : RecT → Bool} (h : ∀ x ∈ l, p x = false) : l.filter p = [] := by
  rw [List.filter_eq_nil_iff]
  intro x hx
  simp [h x hx]
theorem alike_perm {TT : TabT} (h : okTo TT 32 = true) (k : ByteArray) : (alikeT TT k).Perm ((recsT TT 32).filter fun x => nearN (hashS k) (hR x)) := by
  have h1 := first_lt (hashS k)
  have h2 := oth_lt (tagN (hashS k)) h1
  have hne := oth_ne (tagN (hashS k)) h1
  have ho := oth_oth (tagN (hashS k)) h1
  have hcase : ∀ b, b < 8 → ∀ x ∈ bktT TT b, nearN (hashS k) (hR x) = (decide (b = firstN (hashS k) ∨ b = othN (firstN (hashS k)) (tagN (hashS k))) && decide (tagN (hR x) = tagN (hashS k))) := by
    intro b hb x hx
    have hl := (bkt_lie h hb hx).2
    have g1 := first_lt (hR x)
    have hk2 : keyN b (tagN (hR x)) = keyH (hR x) := by
      unfold keyH
      rcases hl with e | e
      · rw [← e]
      · rw [e, keyN_oth _ g1]
    have hi : nearN (hashS k) (hR x) = true ↔ (tagN (hR x) = tagN (hashS k) ∧ (b = firstN (hashS k) ∨ b = othN (firstN (hashS k)) (tagN (hashS k)))) := by
      rw [near_iff, ← hk2]
      show keyN (firstN (hashS k)) (tagN (hashS k)) = _ ↔ _
      rw [eq_comm, keyN_iff hb h1]
    rw [Bool.eq_iff_iff, hi, Bool.and_eq_true, decide_eq_true_iff, decide_eq_true_iff]
    exact And.comm
  rw [show recsT TT 32 = recsT TT (4 * 8) from rfl, recsT_flat TT 8, List.filter_flatMap]
  have hF : ((List.range 8).flatMap fun b => (bktT TT b).filter fun x => nearN (hashS k) (hR x)) = (List.range 8).flatMap fun b => if b = firstN (hashS k) ∨ b = othN (firstN (hashS k)) (tagN (hashS k)) then (bktT TT b).filter fun x => decide (tagN (hR x) = tagN (hashS k)) else [] := by
    refine flat_congr fun b hb => ?_
    have hb := List.mem_range.1 hb
    split
    · rename_i e
      exact List.filter_congr fun x hx => by rw [hcase b hb x hx, decide_eq_true e, Bool.true_and]
    · rename_i e
      exact filter_none' fun x hx => by rw [hcase b hb x hx, decide_eq_false e, Bool.false_and]
  rw [hF]
  refine List.Perm.symm ((flat_two (a := firstN (hashS k)) (b := othN (firstN (hashS k)) (tagN (hashS k))) hne.symm (fun i hi1 hi2 => if_neg (fun e => e.elim hi1 hi2)) 8).trans ?_)
  rw [if_pos h1, if_pos h2, if_pos (.inl rfl), if_pos (.inr rfl)]
  unfold alikeT
  rw [List.filter_append]
theorem alike_len {TT : TabT} (h : okTo TT 32 = true) (k : ByteArray) : (alikeT TT k).length = readsR (recsT TT 32) k := by
  rw [(alike_perm h k).length_eq]
  unfold readsR
  rw [List.countP_eq_length_filter]
theorem ok_keys {TT : TabT} (h : okTo TT 32 = true) : KeysOk (recsT TT 32) := by
  rw [ok_split, Bool.and_eq_true] at h
  exact keysB_iff.1 h.2
theorem alike_may {TT : TabT} (h : okTo TT 32 = true) {k : ByteArray} {x : RecT} (hx : x ∈ alikeT TT k) : mayT x = true := by
  unfold alikeT at hx
  have hx := (List.mem_filter.1 hx).1
  rcases List.mem_append.1 hx with hx | hx
  · exact (bkt_lie h (first_lt _) hx).1
  · exact (bkt_lie h (oth_lt _ (first_lt _)) hx).1
theorem alike_find {TT : TabT} (h : okTo TT 32 = true) (k : ByteArray) : findK keyR (alikeT TT k) k.toList = findK keyR (recsT TT 32) k.toList := by
  have hK := ok_keys h
  have hp := alike_perm h k
  have hK2 : KeysOk (alikeT TT k) := KeysOk.perm (show KeysOk ((recsT TT 32).filter fun x => nearN (hashS k) (hR x)) from by
    unfold KeysOk at hK ⊢
    exact (List.filter_sublist.map keyR).nodup hK) hp.symm
  refine opt_ext fun x => ?_
  rw [find_iff hK2, find_iff hK, hp.mem_iff, List.mem_filter]
  constructor
  · exact fun h => ⟨h.1.1, h.2⟩
  · intro ⟨h1, h2⟩
    refine ⟨⟨h1, ?_⟩, h2⟩
    have : x.1 = k := keyR_eq.1 h2
    unfold hR
    rw [this]
    exact near_self _

/-! ### A table's first records. -/
def maskT (TT : TabT) (i : Nat) : TabT := fun q => if (TT q).1 = true ∧ (recsT TT q).length < i then TT q else (false, nullR)
theorem mask_zero (TT : TabT) : maskT TT 0 = fun _ => (false, nullR) := by
  funext q
  unfold maskT
  rw [if_neg (by omega)]
theorem tmask_all {TT : TabT} (h : okTo TT 32 = true) {q : Nat} (hq : q < 32) : maskT TT (recsT TT 32).length q = TT q := by
  unfold maskT
  cases hb : (TT q).1 with
  | true =>
    have hlt : (recsT TT q).length < (recsT TT 32).length := by
      obtain ⟨r, hr⟩ := recsT_more TT (q + 1) (31 - q)
      rw [show q + 1 + (31 - q) = 32 by omega] at hr
      rw [hr, List.length_append, recsT_succ, hb]
      simp only [if_true, List.length_append, List.length_singleton]
      omega
    exact if_pos ⟨rfl, hlt⟩
  | false =>
    rw [if_neg (by simp)]
    have := (okTo_slot h hq).2 hb
    rw [← this, ← hb]
theorem mask_step {TT : TabT} {i q : Nat} (hq : q < 32) (hp : place (hasL TT 32) i = some q) (hi : i < (recsT TT 32).length) : (TT q).1 = true ∧ (recsT TT 32)[i] = (TT q).2 ∧ ∀ z, z < 32 → setT (maskT TT i) q (true, (recsT TT 32)[i]) z = maskT TT (i + 1) z := by
  obtain ⟨h1, h2, h3⟩ := place_some hp
  rw [hasL_len] at h1
  rw [List.getD_eq_getElem?_getD, List.getElem?_eq_getElem (by rw [hasL_len]; exact hq), Option.getD_some, hasL_at] at h2
  rw [ones_has TT 32 q (by omega)] at h3
  have hrec : (recsT TT 32)[i] = (TT q).2 := by
    obtain ⟨r, hr⟩ := recsT_more TT (q + 1) (31 - q)
    rw [show q + 1 + (31 - q) = 32 by omega, recsT_succ TT q, h2] at hr
    simp only [if_true] at hr
    have e : (recsT TT 32)[i]? = some (TT q).2 := by
      rw [hr, ← h3, List.append_assoc, List.getElem?_append_right (Nat.le_refl _), Nat.sub_self]
      rfl
    rw [List.getElem?_eq_getElem hi] at e
    exact Option.some.inj e
  refine ⟨h2, hrec, fun z hz => ?_⟩
  rw [hrec]
  unfold setT
  split
  · rename_i e
    subst e
    unfold maskT
    rw [if_pos ⟨h2, by omega⟩, ← h2]
  · rename_i e
    unfold maskT
    by_cases hb : (TT z).1 = true
    · by_cases hlt : (recsT TT z).length < i
      · rw [if_pos ⟨hb, hlt⟩, if_pos ⟨hb, by omega⟩]
      · rw [if_neg (fun h => hlt h.2), if_neg]
        rintro ⟨-, h5⟩
        have h6 : (recsT TT z).length = i := by omega
        have h7 := place_at (hasL TT 32) z (by rw [hasL_len]; exact hz) (by rw [hasL_at]; exact hb)
        rw [ones_has TT 32 z (by omega), h6, hp] at h7
        exact e (Option.some.inj h7).symm
    · rw [if_neg (fun h => hb h.1), if_neg (fun h => hb h.1)]
theorem place_has {TT : TabT} {i : Nat} (hi : i < (recsT TT 32).length) : ∃ q, q < 32 ∧ place (hasL TT 32) i = some q := by
  cases hp : place (hasL TT 32) i with
  | some q =>
    have := (place_some hp).1
    rw [hasL_len] at this
    exact ⟨q, this, rfl⟩
  | none =>
    have h1 := (place_none _ _).1 hp
    rw [← ones_len, hasL_len, ones_has TT 32 32 (Nat.le_refl _)] at h1
    omega
end Go.Proofs.YthbnecdeebmlhaaGreat

namespace Go.Proofs.YthbnecdeebmlhaaGreat
open Go.RowKit

def cutR (x : RecT) : RecT := (str ((bl x.1).take 20), x.2.1, x.2.2.1, x.2.2.2.1, str ((bl x.2.2.2.2).take 30))

theorem cut_sizes {l : List RecT} {n : Nat} {x : RecT} (h : x ∈ (l.take n).map cutR) : x.1.size ≤ 20 ∧ x.2.2.2.2.size ≤ 30 := by
  obtain ⟨y, -, rfl⟩ := List.mem_map.1 h
  unfold cutR
  simp only []
  rw [str_size, str_size, List.length_take, List.length_take]
  omega
/-- The reference's May of a record as one letter. -/
theorem rmayT_c (kx : ByteArray) (gx : Bool) (ax nx : Int) (sx : ByteArray) (w : World) (h1 : kx.size ≤ 20) (h2 : sx.size ≤ 30) :
    Calls Tryz.prog 37 #[.agg #[.string kx, .bool gx, .int .i64 ax, .int .i64 nx, .string sx]] w fun e w' => e = .returned (.bool (mayT (kx, gx, ax, nx, sx))) ∧ Below w.heap.size w w' :=
  rmayrec_c kx gx ax nx sx w (by unfold maxLen; omega) (by unfold maxLen; omega)
end Go.Proofs.YthbnecdeebmlhaaGreat

namespace Go.Proofs.YthbnecdeebmlhaaGreat
open Go.RowKit

def layB (x : RecT) (t : Bool) : Nat := if t then othN (firstN (hR x)) (tagN (hR x)) else firstN (hR x)
def layK (TT : TabT) (b i : Nat) : Option Nat := (List.range 4).find? fun s => !(TT (4 * b + (s + i) % 4)).1
def layPut (TT : TabT) (b i : Nat) (x : RecT) : TabT := match layK TT b i with
  | some s => setT TT (4 * b + (s + i) % 4) (true, x)
  | none => TT
def lay1 (TT : TabT) (i : Nat) (x : RecT) (t : Bool) : TabT :=
  if (findK keyR (newestR (recsT TT 32)) x.1.toList).isSome || !mayT x then TT else layPut TT (layB x t) i x
def layN (l : List RecT) (turn : List Bool) : Nat → TabT
  | 0 => zeroT
  | n + 1 => lay1 (layN l turn n) n (cutR (l.getD n nullR)) (turn.getD n false)

theorem layB_lt (x : RecT) (t : Bool) : layB x t < 8 := by
  unfold layB
  cases t with
  | true => rw [if_pos rfl]; exact oth_lt (tagN (hR x)) (first_lt _)
  | false => rw [if_neg (by decide)]; exact first_lt _
theorem layK_some {TT : TabT} {b i s : Nat} (hs : s < 4) (hf : (TT (4 * b + (s + i) % 4)).1 = false) (hp : ∀ s', s' < s → (TT (4 * b + (s' + i) % 4)).1 = true) : layK TT b i = some s := by
  unfold layK
  rw [List.find?_range_eq_some]
  refine ⟨by simp [hf], List.mem_range.2 hs, fun j hj => by simp [hp j hj]⟩
theorem layK_none {TT : TabT} {b i : Nat} (hp : ∀ s', s' < 4 → (TT (4 * b + (s' + i) % 4)).1 = true) : layK TT b i = none := by
  unfold layK
  rw [List.find?_range_eq_none]
  intro s hs
  simp [hp s hs]
theorem layK_is {TT : TabT} {b i s : Nat} (h : layK TT b i = some s) : s < 4 ∧ (TT (4 * b + (s + i) % 4)).1 = false := by
  unfold layK at h
  have h1 := List.mem_of_find?_eq_some h
  have h2 := List.find?_some h
  exact ⟨List.mem_range.1 h1, by simpa using h2⟩

/-- One record more, in a slot that had none. -/
theorem recs_set {TT : TabT} {q : Nat} {x : RecT} (hf : (TT q).1 = false) : ∀ n, (q < n → (recsT (setT TT q (true, x)) n).Perm (recsT TT n ++ [x])) ∧ (n ≤ q → recsT (setT TT q (true, x)) n = recsT TT n)
  | 0 => ⟨fun h => absurd h (by omega), fun _ => rfl⟩
  | n + 1 => by
    have ih := recs_set (x := x) hf n
    refine ⟨fun h => ?_, fun h => ?_⟩
    · rw [recsT_succ, recsT_succ]
      rcases Nat.lt_or_ge q n with h2 | h2
      · rw [setT_old TT q _ (by omega : n ≠ q)]
        refine ((ih.1 h2).append_right _).trans ?_
        rw [List.append_assoc, List.append_assoc]
        exact List.perm_append_comm.append_left _
      · obtain rfl : q = n := by omega
        rw [ih.2 (Nat.le_refl _), setT_new, hf]
        simp
    · rw [recsT_succ, recsT_succ, ih.2 (by omega), setT_old TT q _ (by omega : n ≠ q)]
structure LayOk (TT : TabT) : Prop where
  ok : okTo TT 32 = true
  recs : TabOk TT
theorem LayOk.keys {TT : TabT} (h : LayOk TT) : KeysOk (recsT TT 32) := by
  have := h.ok
  rw [ok_split, Bool.and_eq_true] at this
  exact keysB_iff.1 this.2
theorem okTo_sizes {TT : TabT} (h : okTo TT 32 = true) {q : Nat} (hq : q < 32) : (TT q).2.1.size ≤ 1000 ∧ (TT q).2.2.2.2.2.size ≤ 1000 := by
  obtain ⟨h1, h2⟩ := okTo_slot h hq
  cases hh : (TT q).1 with
  | true => have := mayT_short (h1 hh); omega
  | false => rw [h2 hh]; exact recOk_null_size
theorem LayOk.sizes {TT : TabT} (h : LayOk TT) : ∀ q, q < 32 → (TT q).2.1.size ≤ 1000 ∧ (TT q).2.2.2.2.2.size ≤ 1000 := fun _ hq => okTo_sizes h.ok hq
theorem zero_ok : LayOk zeroT := by
  refine ⟨?_, fun q _ => nullOk⟩
  unfold okTo
  rw [List.all_eq_true]
  intro q _
  unfold okSlot zeroT
  simp
theorem LayOk.set {TT : TabT} (h : LayOk TT) {b k : Nat} {x : RecT} (hb : b < 8) (hk : k < 4) (hf : (TT (4 * b + k)).1 = false) (hm : mayT x = true) (hx : RecOk x) (hB : b = firstN (hR x) ∨ b = othN (firstN (hR x)) (tagN (hR x))) (hn : ∀ y ∈ recsT TT 32, keyR y ≠ keyR x) : LayOk (setT TT (4 * b + k) (true, x)) := by
  have h0 := h.ok
  rw [ok_split, Bool.and_eq_true] at h0
  refine ⟨?_, fun q hq => ?_⟩
  · rw [ok_split, Bool.and_eq_true]
    constructor
    · unfold lieTo
      rw [List.all_eq_true]
      intro q hq
      by_cases e : q = 4 * b + k
      · subst e
        rw [setT_new, show (4 * b + k) / 4 = b by omega]
        unfold lieOk
        simp only [if_true]
        rw [hm, Bool.true_and, Bool.or_eq_true, beq_iff_eq, beq_iff_eq]
        exact hB
      · rw [setT_old TT _ _ e]
        have := h0.1
        unfold lieTo at this
        exact List.all_eq_true.1 this q hq
    · rw [keysB_perm ((recs_set hf 32).1 (by omega)), keysB_snoc, h0.2, Bool.true_and, Bool.not_eq_true', List.any_eq_false]
      intro y hy
      obtain ⟨z, hz, rfl⟩ := List.mem_map.1 hy
      have := hn z hz
      simp only [decide_eq_true_eq]
      intro e
      exact this (keyR_eq.2 e)
  · by_cases e : q = 4 * b + k
    · subst e; rw [setT_new]; exact hx
    · rw [setT_old TT _ _ e]; exact h.recs q hq
theorem layPut_ok {TT : TabT} (h : LayOk TT) {b i : Nat} {x : RecT} (hb : b < 8) (hm : mayT x = true) (hx : RecOk x) (hB : b = firstN (hR x) ∨ b = othN (firstN (hR x)) (tagN (hR x))) (hn : ∀ y ∈ recsT TT 32, keyR y ≠ keyR x) : LayOk (layPut TT b i x) := by
  unfold layPut
  cases hk : layK TT b i with
  | none => exact h
  | some s => exact h.set hb (Nat.mod_lt _ (by omega)) (layK_is hk).2 hm hx hB hn
theorem layB_is (x : RecT) (t : Bool) : layB x t = firstN (hR x) ∨ layB x t = othN (firstN (hR x)) (tagN (hR x)) := by
  unfold layB
  cases t <;> simp
theorem lay1_ok {TT : TabT} (h : LayOk TT) (i : Nat) {x : RecT} (t : Bool) (hx : RecOk x) : LayOk (lay1 TT i x t) := by
  unfold lay1
  split
  · exact h
  · rename_i hc
    simp only [Bool.or_eq_true, not_or, Bool.not_eq_true, Bool.not_eq_true', Option.isSome_eq_false_iff, Option.isNone_iff_eq_none, Bool.not_eq_false] at hc
    refine layPut_ok h (layB_lt x t) hc.2 hx (layB_is x t) ?_
    have := hc.1
    rw [newest_find h.keys] at this
    exact (find_none _).1 this
theorem cutR_ok {x : RecT} (h : RecOk x) : RecOk (cutR x) := by
  have hs := fun (s : ByteArray) (n : Nat) => show (str ((bl s).take n)).size ≤ s.size from by
    rw [str_size, List.length_take]
    have : (bl s).length = s.size := by have := str_size (bl s); rw [str_bl] at this; exact this.symm
    omega
  have h1 := hs x.1 20
  have h2 := hs x.2.2.2.2 30
  unfold cutR
  unfold RecOk at h ⊢
  simp only [] at h ⊢
  refine ⟨?_, h.2.1, h.2.2.1, ?_⟩
  · exact Nat.le_trans h1 h.1
  · exact Nat.le_trans h2 h.2.2.2
theorem layN_ok {l : List RecT} (turn : List Bool) (h : ∀ x ∈ l, RecOk x) : ∀ n, LayOk (layN l turn n)
  | 0 => zero_ok
  | n + 1 => by
    refine lay1_ok (layN_ok turn h n) n _ (cutR_ok ?_)
    rw [List.getD_eq_getElem?_getD]
    cases hn : l[n]? with
    | none => exact nullOk
    | some x => exact h x (List.mem_of_getElem? hn)
end Go.Proofs.YthbnecdeebmlhaaGreat

namespace Go.Proofs.YthbnecdeebmlhaaGreat
open Go.RowKit

theorem rows_ne {w : World} {B1 B2 : Nat} {e1 e2 : TypeId} {s1 s2 n1 n2 : Nat} {v1 v2 : Value} {xs1 xs2 : List Value} (h1 : w.ownsRow B1 e1 s1 v1 n1 xs1) (h2 : w.ownsRow B2 e2 s2 v2 n2 xs2) (hne : e1 ≠ e2) : v1.ownBlock = none ∨ v1.ownBlock ≠ v2.ownBlock := by
  rcases h1.2 with ⟨rfl, -⟩ | ⟨b, cap, cur, rfl, -, hg, -⟩
  · exact .inl rfl
  · refine .inr fun e => ?_
    rcases h2.2 with ⟨rfl, -⟩ | ⟨b', cap', cur', rfl, -, hg', -⟩
    · cases e
    · simp only [Value.ownBlock, Option.some.injEq] at e
      subst e
      rw [hg] at hg'
      simp only [Option.some.injEq, Obj.cells.injEq] at hg'
      exact absurd hg'.2.1 hne
theorem row_not {e t : TypeId} {w : World} {B b s n : Nat} {v : Value} {xs : List Value} {cs : Array Value} (h : w.ownsRow B e s v n xs) (hb : w.heap[b]? = some (.cells cs t)) (hne : e ≠ t) : v.ownBlock ≠ some b := by
  intro hv
  rcases h.2 with ⟨rfl, -⟩ | ⟨g, cap, cur, rfl, -, hg, -⟩
  · cases hv
  · simp only [Value.ownBlock, Option.some.injEq] at hv
    subst hv
    rw [hb] at hg
    simp only [Option.some.injEq, Obj.cells.injEq] at hg
    exact hne hg.2.1.symm

section
variable {w w' : World} {B B' b n : Nat} {u v : Value} {p : List UInt8} {e : TypeId} {xs : List Value}
/-- A row stays while another one of another type grows. -/
theorem OwnV.apart {e2 : TypeId} {v2 : Value} {ys : List Value} (h : OwnV e w B v xs) (h2 : OwnV e2 w B' v2 ys) (hne : e ≠ e2) (hg : w.grownBy w' v2.ownBlock) : OwnV e w' B v xs := OwnV.kept h hg (rows_ne h h2 hne)
end

end Go.Proofs.YthbnecdeebmlhaaGreat
