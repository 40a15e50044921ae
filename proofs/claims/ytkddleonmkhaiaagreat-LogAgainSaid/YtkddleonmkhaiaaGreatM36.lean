/-
  Stage 18: what a log has makes one alike, in whatever order.
  Stage 18: the reference's Reads of a log's records.
-/
import Derived.Test.YtkddleonmkhaiaaGreatM35
import Derived.Test.YtkddleonmkhaiaaGreatM27
import Derived.Test.YtkddleonmkhaiaaGreatM32
import Derived.BigQuiet
import Derived.Deep.DeepCutAuto
namespace Go.Proofs.YtkddleonmkhaiaaGreat
open Go.RowKit

theorem room_pre : ∀ (b a : List Nat), roomB (a ++ b) = true → roomB a = true
  | [], a, h => by rwa [List.append_nil] at h
  | x :: b, a, h => room_le (h := x) (room_pre b (a ++ [x]) (by rwa [List.append_assoc]))
theorem run_all {N : List RecT} (hk : KeysOk N) (hm : ∀ x ∈ N, mayT x = true) (hr : roomB (N.map hR) = true) : ∀ (n k : Nat), N.length - k = n → k ≤ N.length → runP (N.take k) (N.drop k) = (0, N)
  | 0, k, hn, hkl => by
    obtain rfl : k = N.length := by omega
    rw [List.drop_length, List.take_length]
    rfl
  | n + 1, k, hn, hkl => by
    have hlt : k < N.length := by omega
    have hnew : ∀ y ∈ N.take k, keyR y ≠ keyR N[k] := by
      intro y hy e
      obtain ⟨j, hj, rfl⟩ := List.mem_take_iff_getElem.1 hy
      have := List.pairwise_iff_getElem.1 (List.pairwise_map.1 hk) j k (by omega) hlt (by omega)
      exact this e
    have hroom : roomR (N.take k) N[k].1 = true := by
      unfold roomR
      have : roomB ((N.take k).map hR ++ [hashS N[k].1]) = true := by
        have e : (N.take k).map hR ++ [hashS N[k].1] = (N.take (k + 1)).map hR := by
          rw [List.take_succ_eq_append_getElem hlt, List.map_append]
          rfl
        rw [e]
        refine room_pre ((N.drop (k + 1)).map hR) _ ?_
        rw [← List.map_append, List.take_append_drop]
        exact hr
      rw [this, Bool.or_true]
    have h0 := putE_ok (L := N.take k) (x := N[k]) (hm _ (List.getElem_mem hlt)) hroom
    rw [runP_step hlt h0, putN_zero (hm _ (List.getElem_mem hlt)) hroom, putL_new hnew, ← List.take_succ_eq_append_getElem hlt]
    exact run_all hk hm hr n (k + 1) (by omega) hlt
theorem run_perm {N L : List RecT} (hk : KeysOk L) (hm : ∀ x ∈ L, mayT x = true) (hr : roomB (L.map hR) = true) (hp : N.Perm L) : runP [] N = (0, N) := by
  have := run_all (hk.perm hp.symm) (fun x hx => hm x (hp.mem_iff.1 hx)) (by rw [room_perm (hp.map hR)]; exact hr) N.length 0 (by omega) (by omega)
  simpa using this
theorem LG.room {w : World} {B p d : Nat} {v : Value} {L : List RecT} (h : LG w B p d v L) : roomB (L.map hR) = true := by
  obtain ⟨T, -, hf⟩ := h.ck
  have := room_of_fits hf
  rwa [esL_fst] at this
/-- The records in their order, or turned. -/
def turnR (t : Bool) (M : List RecT) : List RecT := if t then M.reverse else M
theorem turnR_len (t : Bool) (M : List RecT) : (turnR t M).length = M.length := by cases t <;> simp [turnR]
theorem turnR_perm (t : Bool) (M : List RecT) : (turnR t M).Perm M := by cases t <;> simp [turnR]
theorem turn_step (M : List RecT) {k : Nat} (hk : k < M.length) : (turnR true M).take (k + 1) = (turnR true M).take k ++ [M[M.length - 1 - k]'(by omega)] := by
  rw [List.take_succ_eq_append_getElem (by rw [turnR_len]; exact hk)]
  congr 2
  simp [turnR]
theorem same_step (M : List RecT) {k : Nat} (hk : k < M.length) : (turnR false M).take (k + 1) = (turnR false M).take k ++ [M[k]] := List.take_succ_eq_append_getElem hk

theorem K5.one' (w : World) (kx : ByteArray) (gx : Bool) (ax nx : Int) (sx : ByteArray) : K5.R (w.alloc (.cells #[.string kx, .bool gx, .int .i64 ax, .int .i64 nx, .string sx] 33)) (.slice (some ⟨w.heap.size, 0, none⟩) 1 1) [(kx, gx, ax, nx, sx)] := Lay.R.one w K5_ok (kx, gx, ax, nx, sx) 33 (0, 0)
theorem wpList_append_rec1 {ops : Array Oper} {rest : List Oper} {o : Oper} {a : Act} {w : World} {Q : Exit → Act → World → Prop} (hgd : o.guard = none) (s x : Operand)
    (ho : o.op = .call { callee := .builtin .append, args := #[s, x], argTypes := #[22, 22] })
    (B : Nat) (v xv : Value) (l m : List RecT) (hs : a.eval s = v) (hx : a.eval x = xv) (hown : OwnRec w B v l) (hrb : K5.R w xv m) (hne : m ≠ []) (hl : l.length + m.length ≤ 1000000) (hbase : B ≤ w.heap.size)
    (h : ∀ v' w', OwnRec w' B v' (l ++ m) → w.grownBy w' v.ownBlock → (v'.ownBlock = v.ownBlock ∨ ∀ k, v'.ownBlock = some k → w.heap.size ≤ k) → wpList Tryz.prog ops Q rest (a.put o.dst v') w') : wpList Tryz.prog ops Q (o :: rest) a w :=
  K5_ok.appendW hgd s x ho B v xv l m hs hx hown hrb hne hl hbase h
/-- A row beside one that grows. -/
theorem apart_append {w w' : World} {B : Nat} {a u v' : Value} {Q : List RecT} (hq : OwnRec w B a Q) (ha : Apart a u) (hg : w.grownBy w' u.ownBlock) (hn : v'.ownBlock = u.ownBlock ∨ ∀ k, v'.ownBlock = some k → w.heap.size ≤ k) : OwnRec w' B a Q ∧ Apart a v' := by
  refine ⟨own_same hq fun g _ _ hgr hga => hg.block g (Array.getElem?_eq_some_iff.1 hgr).1 (fun e => ha g hga e.symm), fun g hga e => ?_⟩
  rcases hn with hn | hn
  · exact ha g hga (hn.symm.trans e)
  · have h1 := hn g e
    have h2 := (World.ownsRow.lt hq g hga).2
    omega

end Go.Proofs.YtkddleonmkhaiaaGreat

namespace Go.Proofs.YtkddleonmkhaiaaGreat
open Go.RowKit

theorem reads_step (l : List RecT) (key : ByteArray) {k : Nat} (hk : k < l.length) : readsR (l.take (k + 1)) key = readsR (l.take k) key + (if nearN (hashS key) (hashS l[k].1) then 1 else 0) := by
  unfold readsR
  rw [List.take_succ_eq_append_getElem hk, List.countP_append]
  simp [List.countP_cons, hR]
def VLn (b q len cap k hk hx : Nat) (key kx : ByteArray) : Nat → World → Value → Prop
  | 13, _, v => v = .string key
  | 14, _, v => v = .int .u64 (hk : Int)
  | 15, _, v => v = .slice (some ⟨b, q, none⟩) len cap
  | 16, _, v => v = .int .i64 (k : Int)
  | 17, _, v => v = .pointer (some ⟨b, q + k * 5, none⟩)
  | 18, _, v => v = .pointer (some ⟨b, q + k * 5, none⟩)
  | 19, _, v => v = .string kx
  | 20, _, v => v = .int .u64 (hx : Int)
  | 21, _, v => v = .bool (nearN hk hx)
  | _, _, _ => True

theorem VLn_below (b q len cap k hk hx : Nat) (key kx : ByteArray) : ∀ (i : Nat) (w w' : World) (v : Value), VLn b q len cap k hk hx key kx i w v → Below w.heap.size w w' → VLn b q len cap k hk hx key kx i w' v := by
  intro i w w' v h hb
  unfold VLn at h ⊢
  split at h <;> first | exact h | trivial | exact h

set_option maxHeartbeats 2000000 in
set_option maxRecDepth 100000 in
theorem rreads_c (v : Value) (l : List RecT) (key : ByteArray) (w : World) (hv : RS w v l) (hl : l.length ≤ 1000) (hs : ∀ x ∈ l, x.1.size ≤ 1000000) (hk : key.size ≤ 1000000) :
    Calls Tryz.prog 18 #[v, .string key] w fun e w' => e = .returned (.int .i64 (readsR l key : Int)) ∧ Below w.heap.size w w' := by
  obtain ⟨a, cap, rfl, hm⟩ := hv.form
  have HR := Go.Lib.hid hv
  have HS := Go.Lib.hid hs
  have CH := Go.Lib.hid fun W => rhash_k key (hashS key) rfl W hk
  have HKL := Go.Lib.hid (hashS_lt key)
  have HST := Go.Lib.hid fun k (h : k < l.length) => reads_step l key h
  clear hv hs hk
  generalize hashS key = hk at *
  go_enter Tryz.func18, Tryz.ntmps18
  go_wp2_with fail
  go_loopw [5, 6] (fun nv ki wr => ∃ (k n : Nat), k ≤ l.length ∧ n ≤ k ∧ ki = .int .i64 (k : Int) ∧ nv = .int .i64 (n : Int) ∧ Hid (n = readsR (l.take k) key) ∧ Hid (Below w.heap.size w wr)) (fun _ ki _ => l.length - (intOf ki).toNat)
  case atStart => exact ⟨0, 0, by omega, by omega, rfl, rfl, Go.Lib.hid (by simp [readsR]), Go.Lib.hid (Below.refl _ _)⟩
  case round =>
    obtain ⟨k, n, hk2, hn, rfl, rfl, HN, HB⟩ := hrel
    by_cases hlt : k < l.length
    · have hltI : (k : Int) < (l.length : Int) := by omega
      obtain ⟨b, q, rfl, -, -, c0, c1, c2, c3, c4⟩ := (HR.out.below HB.out).at k hlt
      have hix := run_idx5 b q l.length cap k hlt
      have hsz := HS.out _ (List.getElem_mem hlt)
      have HNX := Go.Lib.hid (HST.out k hlt)
      have CX := Go.Lib.hid fun W => rhash_k l[k].1 (hashS l[k].1) rfl W hsz
      have CN := Go.Lib.hid fun W => rnear_c hk (hashS l[k].1) W HKL.out (hashS_lt _)
      have C0 := Go.Lib.hid c0
      generalize hashS l[k].1 = hx at *
      generalize l[k].1 = kx at *
      clear c0 c1 c2 c3 c4 hsz
      go_upto_region 5 with (fail)
      refine wp_region_each (by kernel_rfl) (VLn b q l.length cap k hk hx key kx) (VLn_below b q l.length cap k hk hx key kx) (by decide +kernel) (by decide +kernel) (by rfl) [13, 14, 15, 16, 17, 18, 19, 20, 21] (by rfl) ?_ ?_
      · intro i o ho a w6 hb6 hlen hg
        have c0 := keepC C0.out hb6
        match i, ho with
        | 0, ho =>
          obtain rfl := Option.some.inj ho
          have h1 := given_old hg 1 (by decide +kernel)
          clear hg
          exact st_yield ho (wanted_none rfl) (.string key) w6 (by simp [execOp, Act.eval, h1, go_sem]) ⟨_, rfl, Below.refl _ _, by rintro t' ⟨⟩; rfl⟩
        | 1, ho =>
          obtain rfl := Option.some.inj ho
          obtain ⟨_, h13, rfl⟩ := given_fed hg 13 (by decide +kernel)
          clear hg
          exact st_enter (w1 := w6) ho (wanted_none rfl) 27 #[.string key] (by simp [execOp, Act.eval, h13, resolve, go_sem]) ((CH.out _).mono (by rintro e w7 ⟨rfl, hb7⟩; exact ⟨_, rfl, _, rfl, hb7, by rintro t' ⟨⟩; rfl⟩))
        | 2, ho =>
          obtain rfl := Option.some.inj ho
          have h0 := given_old hg 0 (by decide +kernel)
          clear hg
          exact st_yield ho (wanted_none rfl) (.slice (some ⟨b, q, none⟩) l.length cap) w6 (by simp [execOp, Act.eval, h0, go_sem]) ⟨_, rfl, Below.refl _ _, by rintro t' ⟨⟩; rfl⟩
        | 3, ho =>
          obtain rfl := Option.some.inj ho
          have h6 := given_old hg 6 (by decide +kernel)
          clear hg
          exact st_yield ho (wanted_none rfl) (.int .i64 (k : Int)) w6 (by simp [execOp, Act.eval, h6, go_sem]) ⟨_, rfl, Below.refl _ _, by rintro t' ⟨⟩; rfl⟩
        | 4, ho =>
          obtain rfl := Option.some.inj ho
          obtain ⟨_, h15, rfl⟩ := given_fed hg 15 (by decide +kernel)
          obtain ⟨_, h16, rfl⟩ := given_fed hg 16 (by decide +kernel)
          clear hg
          exact st_yield ho (wanted_none rfl) (.pointer (some ⟨b, q + k * 5, none⟩)) w6 (by simp [execOp, Act.eval, h15, h16, go_sem, hix]) ⟨_, rfl, Below.refl _ _, by rintro t' ⟨⟩; rfl⟩
        | 5, ho =>
          obtain rfl := Option.some.inj ho
          obtain ⟨_, h17, rfl⟩ := given_fed hg 17 (by decide +kernel)
          clear hg
          exact st_yield ho (wanted_none rfl) (.pointer (some ⟨b, q + k * 5, none⟩)) w6 (by simp [execOp, Act.eval, h17, go_sem]) ⟨_, rfl, Below.refl _ _, by rintro t' ⟨⟩; rfl⟩
        | 6, ho =>
          obtain rfl := Option.some.inj ho
          obtain ⟨_, h18, rfl⟩ := given_fed hg 18 (by decide +kernel)
          clear hg
          exact st_yield ho (wanted_none rfl) (.string kx) w6 (by simp [execOp, Act.eval, h18, go_sem, c0]) ⟨_, rfl, Below.refl _ _, by rintro t' ⟨⟩; rfl⟩
        | 7, ho =>
          obtain rfl := Option.some.inj ho
          obtain ⟨_, h19, rfl⟩ := given_fed hg 19 (by decide +kernel)
          clear hg
          exact st_enter (w1 := w6) ho (wanted_none rfl) 27 #[.string kx] (by simp [execOp, Act.eval, h19, resolve, go_sem]) ((CX.out _).mono (by rintro e w7 ⟨rfl, hb7⟩; exact ⟨_, rfl, _, rfl, hb7, by rintro t' ⟨⟩; rfl⟩))
        | 8, ho =>
          obtain rfl := Option.some.inj ho
          obtain ⟨_, h14, rfl⟩ := given_fed hg 14 (by decide +kernel)
          obtain ⟨_, h20, rfl⟩ := given_fed hg 20 (by decide +kernel)
          clear hg
          exact st_enter (w1 := w6) ho (wanted_none rfl) 36 #[.int .u64 (hk : Int), .int .u64 (hx : Int)] (by simp [execOp, Act.eval, h14, h20, resolve, go_sem]) ((CN.out w6).mono (by rintro e w7 ⟨rfl, rfl⟩; exact ⟨_, rfl, _, rfl, Below.refl _ _, by rintro t' ⟨⟩; rfl⟩))
        | n + 9, ho => simp at ho
      · intro f w6 hb6 hv
        have h21 := hv 21 (by decide)
        simp only [VLn] at h21
        have HB6 := Go.Lib.hid (HB.out.trans (hb6.mono HB.out.size))
        clear hv hb6 hix CX CN C0
        unfold putAll
        simp only [List.foldl]
        simp only [h21]
        clear h21
        generalize nearN hk hx = t at *
        cases t with
        | true =>
          go_simp
          go_wp2_with fail
          exact ⟨⟨k + 1, n + 1, by omega, by omega, by go_num, by go_num, Go.Lib.hid (by rw [HNX.out, HN.out]; rfl), HB6⟩, by simp only [intOf]; omega⟩
        | false =>
          go_simp
          go_wp2_with fail
          exact ⟨⟨k + 1, n, by omega, by omega, by go_num, rfl, Go.Lib.hid (by rw [HNX.out, HN.out]; rfl), HB6⟩, by simp only [intOf]; omega⟩
    · obtain rfl : k = l.length := by omega
      have HE := Go.Lib.hid (show n = readsR l key from by have := HN.out; rwa [List.take_length] at this)
      go_wp2_with fail
      go_ret
      exact ⟨by rw [HE.out]; rfl, HB.out⟩

end Go.Proofs.YtkddleonmkhaiaaGreat
