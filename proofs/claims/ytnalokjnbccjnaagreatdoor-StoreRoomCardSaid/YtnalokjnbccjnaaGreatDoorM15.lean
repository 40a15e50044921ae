/-
  Room: what sixteen free sectors are good for; files by letters, all of one content.
  The law's done.
  A slice of bytes that lies in one cell of what came in; a list out of its members.
  A slice of the law's Ops as an argument (an Op's cells lie flat: Kind, N, L, Keep; L is a slice of puts: Name, Gone, B; B is a slice too).
  The law's cut: puts, not too many, not too great.
  How the law's store stands while it is worked at: it answers, or it is down.
-/
import Derived.Test.YtnalokjnbccjnaaGreatDoorM14
import Derived.Test.YtnalokjnbccjnaaGreatDoorM01
import Derived.Lib.SmallJoins
import Derived.Deep.Slices
import Derived.Deep.Fields
import Derived.ChangeSame
import Derived.OpenShut
import Derived.Test.YtnalokjnbccjnaaGreatDoorM13
namespace Go.Proofs.YtnalokjnbccjnaaGreatDoor
open Go.RowKit

/-- Puts without bytes find room wherever fourteen sectors are free. -/
theorem room_empty {n : Nat} {F : Nat → List UInt8} {f : Found} {es : List EntT} {ls : List Nat} {l : List PutT} (h : OkF n F f es ls) (hn : 64 ≤ n) (hP : OkP l) (hz : ∀ x ∈ l, x.2.2.2 = []) (hu : (usedL es ls).length + 16 ≤ n) : ¬ NoRoom n es ls l := by
  rintro (⟨P, x, hlt, hPm, hpl, hx, h0, hno⟩ | ⟨F', es', hp, hpl, hpe, hmay, hlt, hall⟩)
  · obtain ⟨z, hz2, rfl⟩ := List.mem_map.1 hx
    unfold freshP at h0
    rw [hz z (want_mem hz2)] at h0
    simp at h0
  · have hsm : ∀ x ∈ es', x.2.1 ≤ 4000 := by
      intro x hx
      rcases List.mem_append.1 ((hpe.mem_iff).1 hx) with hx | hx
      · exact h.small x (mem_keptE.1 hx).1
      · obtain ⟨y, hy, rfl⟩ := List.mem_map.1 hx
        obtain ⟨z, hz, hs⟩ := fresh_put hp y hy
        rw [(strip_eq hs).2.1]
        have := (hP z (want_mem hz)).2.2
        omega
    have htl := lstB_small hmay hsm
    have h2 := flat_len spanFr 0 F' fun y hy => by
      obtain ⟨z, hz2, hs⟩ := fresh_put hp y hy
      unfold spanFr spanE
      rw [rowL_length]
      rcases hpl.each y hy with ⟨-, h4⟩ | ⟨hpos, a, h4, -⟩
      · rw [h4]; simp
      · rw [(strip_eq hs).2.1, hz z (want_mem hz2)] at hpos
        simp at hpos
    have h3 := pig_all (n - 2) ((usedL es ls ++ F'.flatMap spanFr ++ takeL n (usedL es ls ++ F'.flatMap spanFr) (secs (lstB es').length)).map (· - 2)) fun i hi => List.mem_map.2 ⟨i + 2, hall (i + 2) (by omega) (by omega), by omega⟩
    rw [List.length_map] at h3
    simp only [List.length_append] at h3
    have h4 : (takeL n (usedL es ls ++ F'.flatMap spanFr) (secs (lstB es').length)).length < 14 := Nat.lt_of_lt_of_le hlt (by unfold secs; omega)
    omega

/-- A store that answers, r sectors of which are free. -/
structure LR (w : World) (M s d g p n : Nat) (L : Life) (t : Nat) (X : FL) (r : Int) : Prop where
  out : ∃ F f es ls, LV w M s d g p n F L f es ls ∧ filesF F es = X ∧ f.turn ≤ t ∧ r + (usedL es ls).length + 2 ≤ n
section
variable {w w' : World} {M s d g p n t k : Nat} {L : Life} {X : FL} {r : Int}
theorem LR.below (h : LR w M s d g p n L t X r) (hb : Below w.heap.size w w') : LR w' M s d g p n L t X r := by
  obtain ⟨F, f, es, ls, h1, h2⟩ := h.out
  exact ⟨⟨F, f, es, ls, h1.below hb, h2⟩⟩
theorem LR.lw (h : LR w M s d g p n L t X r) : LW w M s d g p n L t X := by
  obtain ⟨F, f, es, ls, h1, h2, h3, -⟩ := h.out
  exact ⟨⟨F, f, es, ls, h1, h2, h3⟩⟩
theorem free_r (h : LW w M s d g p n L t X) : Calls Tryz.prog 22 #[.pointer (some ⟨s, 0, none⟩)] w fun e w' => ∃ r : Int, e = .returned (.int .i64 r) ∧ LR w' M s d g p n L t X r ∧ Below w.heap.size w w' := by
  obtain ⟨F, f, es, ls, h1, rfl, h3⟩ := h.out
  have hll := h1.ok.list_len
  refine (ofree_c h1.st h1.dv h1.n0 h1.ok.used hll).mono ?_
  rintro e w' ⟨rfl, hb⟩
  have hf := free_len h1.n0 h1.ok.used.nodup h1.ok.used.lows
  have hn := h1.n0
  exact ⟨_, rfl, ⟨⟨F, f, es, ls, h1.below hb, rfl, h3, by omega⟩⟩, hb⟩
/-- An Apply of puts without bytes, where sixteen sectors are free. -/
theorem apply_empty {v : Value} {l : List PutT} (h : LR w M s d g p n (lifeN k) t X r) (hr : 16 ≤ r) (hT : Tab w) (hB : 0 < M) (hv : RPt w v l) (hl : l.length ≤ 32) (hz : ∀ x ∈ l, x.2.2.2 = []) (hP : OkP l) (hX : (doneL X l).length ≤ 32) (hk : k ≤ 900000) (ht : t ≤ 1000000) :
    Calls Tryz.prog 16 #[.pointer (some ⟨s, 0, none⟩), v] w fun e w' => e = .returned (.int .i64 0) ∧ (∃ L' t', LW w' M s d g p n L' t' (doneL X l)) ∧ Below M w w' := by
  have hlow := h.lw.low
  have hsz := h.lw.size
  obtain ⟨F, f, es, ls, h1, rfl, h3, h0⟩ := h.out
  have hcd := count_done (F := F) (l := l) h1.ok.may
  have hmis : l.any misP = false := List.any_eq_false.2 fun x hx => by
    have := hP x hx
    unfold misP
    simp only [Bool.or_eq_true, decide_eq_true_eq, not_or]
    omega
  refine (oapply_c h1 hT hB v l hv (.inr ⟨hl, hz⟩) (fun x hx => (hP x hx).2.2) (by show (k : Int) ≤ 900000; omega) (by omega)).mono ?_
  rintro e w' ⟨r', rfl, hend⟩
  rcases hend with ⟨-, h4, -⟩ | ⟨rfl, rfl, h4⟩ | ⟨-, -, h4, -⟩ | ⟨-, -, h4, h5, -⟩ | ⟨-, -, h5, h6, f', es', ls', j, h7, h8, h9⟩
  · rw [hmis] at h4; cases h4
  · exact ⟨rfl, ⟨lifeN k, t, ⟨⟨F, f, es, ls, h1.below h4, rfl, h3⟩⟩⟩, h4.mono hsz⟩
  · omega
  · exact absurd h5 (room_empty h1.ok h1.n0 hP hz (by omega))
  · rcases h9 with ⟨rfl, F', h10, h11⟩ | ⟨-, h10, -⟩
    · exact ⟨rfl, ⟨_, f'.turn, ⟨⟨F', f', es', ls', h10, h11, Nat.le_refl _⟩⟩⟩, h.lw.offs_below h5⟩
    · rw [tickN_life] at h10
      cases h10
/-- An Apply on a device that lives, of puts that may be: it is done, or there is no room. -/
theorem apply_live {v : Value} {l : List PutT} (h : LW w M s d g p n (lifeN k) t X) (hT : Tab w) (hB : 0 < M) (hv : RPt w v l) (hl : l.length ≤ 19) (hP : OkP l) (hne : l ≠ []) (hX : (doneL X l).length ≤ 32) (hk : k ≤ 900000) (ht : t ≤ 1000000) :
    Calls Tryz.prog 16 #[.pointer (some ⟨s, 0, none⟩), v] w fun e w' => ∃ r : Int, e = .returned (.int .i64 r) ∧ ((r = 4 ∧ Below w.heap.size w w') ∨ (r = 0 ∧ Tab w' ∧ Below M w w' ∧ ∃ k', k' ≤ k + 1400 ∧ LW w' M s d g p n (lifeN k') (t + 1) (doneL X l))) := by
  obtain ⟨F, f, es, ls, h1, rfl, h3⟩ := h.out
  have hcd := count_done (F := F) (l := l) h1.ok.may
  have hmis : l.any misP = false := List.any_eq_false.2 fun x hx => by
    have := hP x hx
    unfold misP
    simp only [Bool.or_eq_true, decide_eq_true_eq, not_or]
    omega
  refine (oapply_c h1 hT hB v l hv (.inl hl) (fun x hx => (hP x hx).2.2) (by show (k : Int) ≤ 900000; omega) (by omega)).mono ?_
  rintro e w' ⟨r', rfl, hend⟩
  refine ⟨r', rfl, ?_⟩
  rcases hend with ⟨-, h4, -⟩ | ⟨-, h4, -⟩ | ⟨-, -, h4, -⟩ | ⟨rfl, -, -, -, h5⟩ | ⟨-, -, h5, h6, f', es', ls', j, h7, h8, h9⟩
  · rw [hmis] at h4; cases h4
  · exact absurd h4 hne
  · omega
  · exact .inl ⟨rfl, h5⟩
  · rcases h9 with ⟨rfl, F', h10, h11⟩ | ⟨-, h10, -⟩
    · rw [tickN_life] at h10
      exact .inr ⟨rfl, h6, h.offs_below h5, k + j, by omega, ⟨⟨F', f', es', ls', h10, h11, by omega⟩⟩⟩
    · rw [tickN_life] at h10
      cases h10
end

/-- k files, each of the content b. -/
def GN (k : Nat) (b : List UInt8) : FL := (List.range k).map fun i => (nmI i, b)
theorem GN_len (k : Nat) (b : List UInt8) : (GN k b).length = k := by simp [GN]
theorem GN_rise (k : Nat) (b : List UInt8) (hk : k ≤ 100) : RiseF (GN k b) := by
  unfold RiseF GN
  rw [List.pairwise_map, List.pairwise_iff_getElem]
  intro i j hi hj hij
  rw [List.getElem_range, List.getElem_range]
  rw [List.length_range] at hj
  exact nmI_lt hij (by omega)
theorem GN_look (k : Nat) (b : List UInt8) (hk : k ≤ 100) (i : Nat) (hi : i < k) : lookF (GN k b) (nmI i) = some b := look_of (GN_rise k b hk) (List.mem_map.2 ⟨i, List.mem_range.2 hi, rfl⟩)
theorem GN_none (k : Nat) (b : List UInt8) (q : ByteArray) (h : ∀ i, i < k → nmI i ≠ q) : lookF (GN k b) q = none := look_none.2 fun y hy e => by
  obtain ⟨i, hi, rfl⟩ := List.mem_map.1 hy
  exact h i (List.mem_range.1 hi) e
/-- A file more. -/
theorem GN_more (k : Nat) (b : List UInt8) (hk : k < 100) (sl : Option Addr × Nat × Nat) : doneL (GN k b) [(nmI k, false, sl, b)] = GN (k + 1) b := by
  show setL (GN k b) (nmI k) b false = _
  refine look_ext (rise_set (GN_rise k b (by omega)) _ _ _) (GN_rise (k + 1) b (by omega)) fun q => ?_
  rw [look_set]
  by_cases hq : q = nmI k
  · subst hq
    rw [if_pos rfl, if_neg (by decide), GN_look (k + 1) b (by omega) k (by omega)]
  · rw [if_neg hq]
    by_cases hi : ∃ i, i < k ∧ nmI i = q
    · obtain ⟨i, hi, rfl⟩ := hi
      rw [GN_look k b (by omega) i hi, GN_look (k + 1) b (by omega) i (by omega)]
    · rw [GN_none k b q fun i h1 h2 => hi ⟨i, h1, h2⟩, GN_none (k + 1) b q fun i h1 h2 => ?_]
      by_cases h3 : i = k
      · subst h3; exact hq h2.symm
      · exact hi ⟨i, by omega, h2⟩
/-- Puts of k files, without bytes. -/
def PutsG (k : Nat) (gn : Bool) (l : List PutT) : Prop := l.length = k ∧ ∀ i (hi : i < l.length), l[i].1 = nmI i ∧ l[i].2.1 = gn ∧ l[i].2.2.2 = []
theorem PutsG.len {k : Nat} {gn : Bool} {l : List PutT} (h : PutsG k gn l) : l.length = k := h.1
theorem PutsG.snoc {k : Nat} {gn : Bool} {l : List PutT} (h : PutsG k gn l) (x : PutT) (h1 : x.1 = nmI k) (h2 : x.2.1 = gn) (h3 : x.2.2.2 = []) : PutsG (k + 1) gn (l ++ [x]) := by
  refine ⟨by rw [List.length_append, h.1]; rfl, fun i hi => ?_⟩
  rw [List.length_append, h.1] at hi
  by_cases hik : i < l.length
  · rw [List.getElem_append_left hik]
    exact h.2 i hik
  · obtain rfl : i = k := by have := h.1; simp only [List.length_cons, List.length_nil] at hi; omega
    have e : (l ++ [x])[i]'(by rw [List.length_append, h.1]; simp) = x := by
      rw [List.getElem_append_right (by omega)]
      simp [h.1]
    rw [e]
    exact ⟨h1, h2, h3⟩
theorem PutsG.ok {k : Nat} {gn : Bool} {l : List PutT} (h : PutsG k gn l) : OkP l := by
  intro x hx
  obtain ⟨i, hi, rfl⟩ := List.mem_iff_getElem.1 hx
  obtain ⟨h1, h2, h3⟩ := h.2 i hi
  rw [h1, h3]
  unfold nmI
  rw [str_size]
  exact ⟨by simp, by simp, by simp⟩
theorem PutsG.zero {k : Nat} {gn : Bool} {l : List PutT} (h : PutsG k gn l) : ∀ x ∈ l, x.2.2.2 = [] := by
  intro x hx
  obtain ⟨i, hi, rfl⟩ := List.mem_iff_getElem.1 hx
  exact (h.2 i hi).2.2
theorem PutsG.done {k : Nat} {gn : Bool} {l : List PutT} (h : PutsG k gn l) (hk : k ≤ 100) (b : List UInt8) : doneL (GN k b) l = if gn = true then [] else GN k [] := by
  refine look_ext (rise_done (GN_rise k b hk) l) ?_ fun q => ?_
  · cases gn
    · rw [if_neg (by decide)]; exact GN_rise k [] hk
    · rw [if_pos rfl]; exact List.Pairwise.nil
  rw [look_done]
  by_cases hq : ∃ i, i < k ∧ nmI i = q
  · obtain ⟨i, hi, rfl⟩ := hq
    have hil : i < l.length := by rw [h.1]; exact hi
    have hp : lookP l (nmI i) = some l[i] := lookP_iff.2 ⟨i, hil, rfl, (h.2 i hil).1, fun j hj hij e => by
      rw [(h.2 j hj).1] at e
      have := nmI_inj (by have := h.1; omega) (by omega) e
      omega⟩
    rw [hp]
    simp only
    unfold valP
    rw [(h.2 i hil).2.1, (h.2 i hil).2.2]
    cases gn
    · rw [if_neg (by decide), if_neg (by decide), GN_look k [] hk i hi]
    · rfl
  · have hp : lookP l q = none := lookP_none.2 fun y hy e => by
      obtain ⟨i, hi, rfl⟩ := List.mem_iff_getElem.1 hy
      exact hq ⟨i, by rw [← h.1]; exact hi, by rw [← (h.2 i hi).1]; exact e⟩
    rw [hp]
    simp only
    have hF : ∀ c, lookF (GN k c) q = none := fun c => GN_none k c q fun i h1 h2 => hq ⟨i, h1, h2⟩
    rw [hF]
    cases gn
    · rw [if_neg (by decide), hF]
    · rfl
/-- How many files there are behind it. -/
theorem PutsG.count {k : Nat} {gn : Bool} {l : List PutT} (h : PutsG k gn l) (hk : k ≤ 100) (b : List UInt8) : (doneL (GN k b) l).length = if gn = true then 0 else k := by
  rw [h.done hk b]
  cases gn
  · rw [if_neg (by decide), if_neg (by decide), GN_len]
  · rfl

end Go.Proofs.YtnalokjnbccjnaaGreatDoor

namespace Go.Proofs.YtnalokjnbccjnaaGreatDoor
open Go.RowKit

def VDn (u : Value) (g n c2 k wb : Nat) (nm : ByteArray) (gn : Bool) (av : Option Addr) (nv cv : Nat) (bs : List UInt8) (Y : FL) : Nat → World → Value → Prop
  | 30, _, v => v = u
  | 31, _, v => v = .slice (some ⟨g, 0, none⟩) n c2
  | 32, _, v => v = .int .i64 (k : Int)
  | 33, _, v => v = .pointer (some ⟨g, k * 3, none⟩)
  | 34, _, v => v = .pointer (some ⟨g, k * 3, none⟩)
  | 35, _, v => v = .string nm
  | 36, _, v => v = .slice (some ⟨g, 0, none⟩) n c2
  | 37, _, v => v = .int .i64 (k : Int)
  | 38, _, v => v = .pointer (some ⟨g, k * 3, none⟩)
  | 39, _, v => v = .pointer (some ⟨g, k * 3 + 2, none⟩)
  | 40, _, v => v = .slice av nv cv
  | 41, _, v => v = .string (str bs)
  | 42, _, v => v = .slice (some ⟨g, 0, none⟩) n c2
  | 43, _, v => v = .int .i64 (k : Int)
  | 44, _, v => v = .pointer (some ⟨g, k * 3, none⟩)
  | 45, _, v => v = .pointer (some ⟨g, k * 3 + 1, none⟩)
  | 46, _, v => v = .bool gn
  | 47, w, v => OwnF w wb v (setL Y nm bs gn)
  | _, _, _ => True

theorem VDn_below (u : Value) (g n c2 k wb : Nat) (nm : ByteArray) (gn : Bool) (av : Option Addr) (nv cv : Nat) (bs : List UInt8) (Y : FL) : ∀ (i : Nat) (w w' : World) (v : Value), VDn u g n c2 k wb nm gn av nv cv bs Y i w v → Below w.heap.size w w' → VDn u g n c2 k wb nm gn av nv cv bs Y i w' v := by
  intro i w w' v h hb
  unfold VDn at h ⊢
  split at h <;> first | exact h | trivial | exact OwnF.below h hb | exact RB.below h hb | exact Own.below h hb | exact OwnV.below h hb

theorem run_idxP (b n cap j : Nat) (h : j < n) (W : World) : (Instr.indexAt 31 (.slice (some ⟨b, 0, none⟩) n cap) (.int .i64 (j : Int))).run Tryz.prog W = .ok (.pointer (some ⟨b, j * 3, none⟩)) W := by
  obtain ⟨i, hi, -, hsize, -⟩ := info_parts infoPu
  have he : Tryz.prog.elem 31 = 47 := by kernel_rfl
  have hs : (sizeOf 47).run Tryz.prog W = .ok 3 W := by simp [sizeOf, typeInfo, hi, hsize]
  have hadd : (⟨b, 0, none⟩ : Addr).add (j * 3) = ⟨b, j * 3, none⟩ := by unfold Addr.add; split <;> simp_all
  rw [run_indexAt_slice W _ _ _ _ _ _ (by rw [he]; exact Tryz.underlying31), if_pos ⟨by omega, by omega⟩, he, hs]
  simp [Result.andThen, hadd]
section
variable {w : World} {B : Nat}
theorem done_take (X : FL) (l : List PutT) (k : Nat) (hk : k < l.length) : doneL X (l.take (k + 1)) = setL (doneL X (l.take k)) l[k].1 l[k].2.2.2 l[k].2.1 := by
  rw [List.take_succ_eq_append_getElem hk, doneL_append]
  rfl
theorem set_len1 (X : FL) (nm : ByteArray) (b : List UInt8) (g : Bool) : (setL X nm b g).length ≤ X.length + 1 := by
  have h := set_len nm b g X
  unfold setL
  split at h <;> omega
/-- What done answers. -/
def DnWhat (w w' : World) (B : Nat) (X : FL) (l : List PutT) (v' : Value) (r : Int) : Prop :=
  ∃ Y : FL, OwnF w' B v' Y ∧ Below w.heap.size w w' ∧ ((r = 1 ∧ l.any misP = true) ∨ (l.any misP = false ∧ Y = doneL X l ∧ ((r = 5 ∧ 32 < Y.length) ∨ (r = 0 ∧ Y.length ≤ 32))))
set_option maxHeartbeats 8000000 in
set_option maxRecDepth 100000 in
theorem done_c (v v2 : Value) (X : FL) (l : List PutT) (hv : OwnF w B v X) (hB : B ≤ w.heap.size) (hX : X.length ≤ 32) (hl2 : RPt w v2 l) (hl : l.length ≤ 6) (hsz : ∀ x ∈ l, x.1.size ≤ 1000) :
    Calls Tryz.prog 14 #[v, v2] w fun e w' => ∃ (v' : Value) (r : Int), e = .returned (.tuple #[v', .int .i64 r]) ∧ DnWhat w w' B X l v' r := by
  obtain ⟨p2, c2, rfl⟩ := hl2.form
  have HV := Go.Lib.hid hv
  have HL2 := Go.Lib.hid hl2
  have HX := Go.Lib.hid hX
  have HSZ := Go.Lib.hid hsz
  have HB := Go.Lib.hid hB
  obtain ⟨n, hn⟩ : ∃ n, n = l.length := ⟨_, rfl⟩
  rw [← hn] at HL2 hl ⊢
  have HN := Go.Lib.hid hn
  have HL := Go.Lib.hid hl
  have hnI : (n : Int) ≤ 6 := by omega
  clear hv hl2 hX hn hl hsz hB
  go_enter Tryz.func14, Tryz.ntmps14
  go_wp2_with fail
  go_loopw [0, 6] (fun ov iv wr => ∃ (k : Nat) (u : Value) (Y : FL), u = ov ∧ k ≤ n ∧ iv = .int .i64 (k : Int) ∧ OwnF wr B u Y ∧ Y.length ≤ 32 + k ∧ Y = doneL X (l.take k) ∧ (l.take k).any misP = false ∧ Below w.heap.size w wr) (fun _ iv _ => n - (intOf iv).toNat)
  case atStart => exact ⟨0, _, X, rfl, by omega, rfl, HV.out, HX.out, rfl, rfl, Below.refl _ _⟩
  case round =>
    obtain ⟨k, u, Y, rfl, hk, rfl, hO, hYl, hY, hmis, hbw⟩ := hrel
    by_cases hlt : k < n
    · have hkl : k < l.length := by have := HN.out; omega
      obtain ⟨g, hg, -, hx⟩ := (HL2.out.below hbw).at k hkl
      have htx := (HL2.out.below hbw).2 l[k] (List.getElem_mem hkl)
      have hszk := HSZ.out l[k] (List.getElem_mem hkl)
      have HDT := Go.Lib.hid (done_take X l k hkl)
      have HAT := Go.Lib.hid (show (l.take (k + 1)).any misP = ((l.take k).any misP || misP l[k]) from by rw [List.take_succ_eq_append_getElem hkl, List.any_append]; simp)
      have HMEM := Go.Lib.hid (List.getElem_mem hkl)
      generalize l[k] = x at *
      obtain ⟨nm, gn, ⟨av, nv, cv⟩, bs⟩ := x
      subst hg
      simp only [slV] at hx htx hszk
      have HX3 := Go.Lib.hid (show ∀ W, Below wr.heap.size wr W → W.cell? ⟨g, k * 3, none⟩ = some (.string nm) ∧ W.cell? ⟨g, k * 3 + 1, none⟩ = some (.bool gn) ∧ W.cell? ⟨g, k * 3 + 2, none⟩ = some (.slice av nv cv) from fun W hW => ⟨keptC hx.1 hW, keptC hx.2.1 hW, keptC hx.2.2 hW⟩)
      have HTX := Go.Lib.hid (show ∀ W, Below wr.heap.size wr W → RB W (.slice av nv cv) bs from fun W hW => (htx.below hW).1)
      obtain ⟨x0, x1, x2⟩ := hx
      have hkI : (k : Int) < (n : Int) := by omega
      have HLT := Go.Lib.hid hlt
      have HO := Go.Lib.hid hO
      have HYL := Go.Lib.hid hYl
      have HY := Go.Lib.hid hY
      have HMIS := Go.Lib.hid hmis
      have HBW := Go.Lib.hid hbw
      obtain ⟨m, hm⟩ : ∃ m, m = nm.size := ⟨_, rfl⟩
      rw [← hm] at hszk
      have HM := Go.Lib.hid hm
      have hmI : (nm.size : Int) = (m : Int) := by rw [hm]
      clear hlt hk hO hYl hY hmis hbw htx hm
      by_cases hn1 : m < 1
      · have hI : (m : Int) < 1 := by omega
        have HBAD := Go.Lib.hid (show l.any misP = true from List.any_eq_true.2 ⟨_, HMEM.out, by unfold misP; simp only [← HM.out, Bool.or_eq_true, decide_eq_true_eq]; omega⟩)
        clear hn1
        go_wp2_with fail
        go_ret2
        exact ⟨_, 1, rfl, Y, HO.out, HBW.out, .inl ⟨rfl, HBAD.out⟩⟩
      · by_cases hn2 : 20 < m
        · have hI : ¬ (m : Int) < 1 := by omega
          have hI2 : (20 : Int) < (m : Int) := by omega
          have HBAD := Go.Lib.hid (show l.any misP = true from List.any_eq_true.2 ⟨_, HMEM.out, by unfold misP; simp only [← HM.out, Bool.or_eq_true, decide_eq_true_eq]; omega⟩)
          clear hn1 hn2
          go_wp2_with fail
          go_ret2
          exact ⟨_, 1, rfl, Y, HO.out, HBW.out, .inl ⟨rfl, HBAD.out⟩⟩
        · have hI : ¬ (m : Int) < 1 := by omega
          have hI2 : ¬ (20 : Int) < (m : Int) := by omega
          have HGOOD := Go.Lib.hid (show (l.take (k + 1)).any misP = false from by rw [HAT.out, HMIS.out]; unfold misP; simp only [← HM.out, Bool.false_or, Bool.or_eq_false_iff, decide_eq_false_iff_not]; omega)
          have HIS := Go.Lib.hid (show ∀ W : World, (Instr.indexAt 31 (.slice (some ⟨g, 0, none⟩) n c2) (.int .i64 (k : Int))).run Tryz.prog W = .ok (.pointer (some ⟨g, k * 3, none⟩)) W from fun W => run_idxP g n c2 k HLT.out W)
          have CS := Go.Lib.hid fun W (hW : Below wr.heap.size wr W) => lset_c u Y (HO.out.below hW) (by have := HYL.out; have := HLT.out; omega) nm bs gn
          clear hn1 hn2 x1 x2
          go_upto_region 6 with (fail)
          refine wp_region_head 18 (by decide) (by kernel_rfl) (VDn u g n c2 k wr.heap.size nm gn av nv cv bs Y) (VDn_below u g n c2 k wr.heap.size nm gn av nv cv bs Y) (by decide +kernel) (by rfl) [30, 31, 32, 33, 34, 35, 36, 37, 38, 39, 40, 41, 42, 43, 44, 45, 46, 47] (by rfl) ?_ ?_
          · intro i o hin ho a w6 hb6 hlen hg
            have hc3 := HX3.out w6 hb6
            match i, hin, ho with
            | 0, hin, ho =>
              obtain rfl := Option.some.inj ho
              have h0 := given_old hg 0 (by decide +kernel)
              clear hg
              exact st_yield ho (wanted_none rfl) (u) w6 (by simp [execOp, Act.eval, h0, go_sem]) ⟨_, rfl, Below.refl _ _, by rintro t' ⟨⟩; rfl⟩
            | 1, hin, ho =>
              obtain rfl := Option.some.inj ho
              have h1 := given_old hg 1 (by decide +kernel)
              clear hg
              exact st_yield ho (wanted_none rfl) (.slice (some ⟨g, 0, none⟩) n c2) w6 (by simp [execOp, Act.eval, h1, go_sem]) ⟨_, rfl, Below.refl _ _, by rintro t' ⟨⟩; rfl⟩
            | 2, hin, ho =>
              obtain rfl := Option.some.inj ho
              have h6 := given_old hg 6 (by decide +kernel)
              clear hg
              exact st_yield ho (wanted_none rfl) (.int .i64 (k : Int)) w6 (by simp [execOp, Act.eval, h6, go_sem]) ⟨_, rfl, Below.refl _ _, by rintro t' ⟨⟩; rfl⟩
            | 3, hin, ho =>
              obtain rfl := Option.some.inj ho
              obtain ⟨_, h31, rfl⟩ := given_fed hg 31 (by decide +kernel)
              obtain ⟨_, h32, rfl⟩ := given_fed hg 32 (by decide +kernel)
              clear hg
              exact st_yield ho (wanted_none rfl) (.pointer (some ⟨g, k * 3, none⟩)) w6 (by simp [execOp, Act.eval, h31, h32, go_sem, HIS.out, Result.andThen]) ⟨_, rfl, Below.refl _ _, by rintro t' ⟨⟩; rfl⟩
            | 4, hin, ho =>
              obtain rfl := Option.some.inj ho
              obtain ⟨_, h33, rfl⟩ := given_fed hg 33 (by decide +kernel)
              clear hg
              exact st_yield ho (wanted_none rfl) (.pointer (some ⟨g, k * 3, none⟩)) w6 (by simp [execOp, Act.eval, h33, go_sem]) ⟨_, rfl, Below.refl _ _, by rintro t' ⟨⟩; rfl⟩
            | 5, hin, ho =>
              obtain rfl := Option.some.inj ho
              obtain ⟨_, h34, rfl⟩ := given_fed hg 34 (by decide +kernel)
              clear hg
              exact st_yield ho (wanted_none rfl) (.string nm) w6 (by simp [execOp, Act.eval, h34, go_sem, hc3.1]) ⟨_, rfl, Below.refl _ _, by rintro t' ⟨⟩; rfl⟩
            | 6, hin, ho =>
              obtain rfl := Option.some.inj ho
              have h1 := given_old hg 1 (by decide +kernel)
              clear hg
              exact st_yield ho (wanted_none rfl) (.slice (some ⟨g, 0, none⟩) n c2) w6 (by simp [execOp, Act.eval, h1, go_sem]) ⟨_, rfl, Below.refl _ _, by rintro t' ⟨⟩; rfl⟩
            | 7, hin, ho =>
              obtain rfl := Option.some.inj ho
              have h6 := given_old hg 6 (by decide +kernel)
              clear hg
              exact st_yield ho (wanted_none rfl) (.int .i64 (k : Int)) w6 (by simp [execOp, Act.eval, h6, go_sem]) ⟨_, rfl, Below.refl _ _, by rintro t' ⟨⟩; rfl⟩
            | 8, hin, ho =>
              obtain rfl := Option.some.inj ho
              obtain ⟨_, h36, rfl⟩ := given_fed hg 36 (by decide +kernel)
              obtain ⟨_, h37, rfl⟩ := given_fed hg 37 (by decide +kernel)
              clear hg
              exact st_yield ho (wanted_none rfl) (.pointer (some ⟨g, k * 3, none⟩)) w6 (by simp [execOp, Act.eval, h36, h37, go_sem, HIS.out, Result.andThen]) ⟨_, rfl, Below.refl _ _, by rintro t' ⟨⟩; rfl⟩
            | 9, hin, ho =>
              obtain rfl := Option.some.inj ho
              obtain ⟨_, h38, rfl⟩ := given_fed hg 38 (by decide +kernel)
              clear hg
              exact st_yield ho (wanted_none rfl) (.pointer (some ⟨g, k * 3 + 2, none⟩)) w6 (by simp [execOp, Act.eval, h38, go_sem]) ⟨_, rfl, Below.refl _ _, by rintro t' ⟨⟩; rfl⟩
            | 10, hin, ho =>
              obtain rfl := Option.some.inj ho
              obtain ⟨_, h39, rfl⟩ := given_fed hg 39 (by decide +kernel)
              clear hg
              exact st_yield ho (wanted_none rfl) (.slice av nv cv) w6 (by simp [execOp, Act.eval, h39, go_sem, hc3.2.2]) ⟨_, rfl, Below.refl _ _, by rintro t' ⟨⟩; rfl⟩
            | 11, hin, ho =>
              obtain rfl := Option.some.inj ho
              obtain ⟨_, h40, rfl⟩ := given_fed hg 40 (by decide +kernel)
              clear hg
              have cv := run_string_RB w6 45 5 9 Tryz.underlying45 Tryz.underlying5 Tryz.underlying9 (.slice av nv cv) bs (HTX.out w6 hb6)
              exact st_yield ho (wanted_none rfl) (.string (str bs)) w6 (by simp [execOp, Act.eval, h40, go_sem, cv, Result.andThen]) ⟨_, rfl, Below.refl _ _, by rintro t' ⟨⟩; rfl⟩
            | 12, hin, ho =>
              obtain rfl := Option.some.inj ho
              have h1 := given_old hg 1 (by decide +kernel)
              clear hg
              exact st_yield ho (wanted_none rfl) (.slice (some ⟨g, 0, none⟩) n c2) w6 (by simp [execOp, Act.eval, h1, go_sem]) ⟨_, rfl, Below.refl _ _, by rintro t' ⟨⟩; rfl⟩
            | 13, hin, ho =>
              obtain rfl := Option.some.inj ho
              have h6 := given_old hg 6 (by decide +kernel)
              clear hg
              exact st_yield ho (wanted_none rfl) (.int .i64 (k : Int)) w6 (by simp [execOp, Act.eval, h6, go_sem]) ⟨_, rfl, Below.refl _ _, by rintro t' ⟨⟩; rfl⟩
            | 14, hin, ho =>
              obtain rfl := Option.some.inj ho
              obtain ⟨_, h42, rfl⟩ := given_fed hg 42 (by decide +kernel)
              obtain ⟨_, h43, rfl⟩ := given_fed hg 43 (by decide +kernel)
              clear hg
              exact st_yield ho (wanted_none rfl) (.pointer (some ⟨g, k * 3, none⟩)) w6 (by simp [execOp, Act.eval, h42, h43, go_sem, HIS.out, Result.andThen]) ⟨_, rfl, Below.refl _ _, by rintro t' ⟨⟩; rfl⟩
            | 15, hin, ho =>
              obtain rfl := Option.some.inj ho
              obtain ⟨_, h44, rfl⟩ := given_fed hg 44 (by decide +kernel)
              clear hg
              exact st_yield ho (wanted_none rfl) (.pointer (some ⟨g, k * 3 + 1, none⟩)) w6 (by simp [execOp, Act.eval, h44, go_sem]) ⟨_, rfl, Below.refl _ _, by rintro t' ⟨⟩; rfl⟩
            | 16, hin, ho =>
              obtain rfl := Option.some.inj ho
              obtain ⟨_, h45, rfl⟩ := given_fed hg 45 (by decide +kernel)
              clear hg
              exact st_yield ho (wanted_none rfl) (.bool gn) w6 (by simp [execOp, Act.eval, h45, go_sem, hc3.2.1]) ⟨_, rfl, Below.refl _ _, by rintro t' ⟨⟩; rfl⟩
            | 17, hin, ho =>
              obtain rfl := Option.some.inj ho
              obtain ⟨v30', h30, p30⟩ := given_fed hg 30 (by decide +kernel)
              have p30 : v30' = u := p30
              rw [p30] at h30
              obtain ⟨_, h35, rfl⟩ := given_fed hg 35 (by decide +kernel)
              obtain ⟨_, h41, rfl⟩ := given_fed hg 41 (by decide +kernel)
              obtain ⟨_, h46, rfl⟩ := given_fed hg 46 (by decide +kernel)
              clear hg
              refine st_enter (w1 := w6) ho (wanted_none rfl) 29 #[u, .string nm, .string (str bs), .bool gn] (by simp [execOp, Act.eval, h30, h35, h41, h46, resolve, go_sem]) ((CS.out w6 hb6).mono ?_)
              rintro e w7 ⟨v, rfl, hown, hb⟩
              exact ⟨v, rfl, v, rfl, hb, by rintro t' ⟨⟩; exact row_mono hown hb6.size⟩
            | n + 18, hin, ho => omega
          · intro f5 w6 hb6 hv
            have h47 := hv 47 (by decide)
            simp only [VDn] at h47
            obtain ⟨Z, hZ1, hZ2⟩ : ∃ Z, Z = setL Y nm bs gn ∧ OwnF w6 wr.heap.size (f5 47) Z := ⟨_, rfl, h47⟩
            have HB6 := Go.Lib.hid (below_to HBW.out (Nat.le_refl _) hb6)
            have HZ := Go.Lib.hid (And.intro hZ1 (show OwnF w6 B (f5 47) Z from row_mono hZ2 (Nat.le_trans HB.out HBW.out.size)))
            have HZL := Go.Lib.hid (show Z.length ≤ Y.length + 1 from by rw [hZ1]; exact set_len1 _ _ _ _)
            unfold putAll
            simp only [List.foldl, List.drop]
            generalize f5 47 = v7 at *
            clear hv hb6 h47 hZ1 hZ2
            go_simp
            go_wp2_with fail
            go_roundw
            case rel => exact ⟨k + 1, _, Z, rfl, by have := HLT.out; omega, by go_num, HZ.out.2, by have := HZL.out; have := HYL.out; omega, by rw [HDT.out, ← HY.out, HZ.out.1], HGOOD.out, HB6.out⟩
            case measure => simp only [intOf]; have := HLT.out; omega
    · obtain rfl : k = n := by omega
      have htk : l.take k = l := List.take_of_length_le (by have := HN.out; omega)
      rw [htk] at hY hmis
      obtain ⟨a, c, rfl⟩ := hO.form
      have HF := Go.Lib.hid (And.intro hO (And.intro hY (And.intro hmis hbw)))
      have HYL := Go.Lib.hid hYl
      obtain ⟨m, hm⟩ : ∃ m, m = Y.length := ⟨_, rfl⟩
      rw [← hm] at hYl ⊢
      have HM := Go.Lib.hid hm
      clear hO hY hmis hbw htk hm
      by_cases h32 : 32 < m
      · have hI : (32 : Int) < (m : Int) := by omega
        go_wp2_with fail
        go_ret2
        exact ⟨_, 5, rfl, Y, by rw [HM.out]; exact HF.out.1, HF.out.2.2.2, .inr ⟨HF.out.2.2.1, HF.out.2.1, .inl ⟨rfl, by rw [← HM.out]; exact h32⟩⟩⟩
      · have hI : ¬ (32 : Int) < (m : Int) := by omega
        go_wp2_with fail
        go_ret2
        exact ⟨_, 0, rfl, Y, by rw [HM.out]; exact HF.out.1, HF.out.2.2.2, .inr ⟨HF.out.2.2.1, HF.out.2.1, .inr ⟨rfl, by rw [← HM.out]; omega⟩⟩⟩
end

end Go.Proofs.YtnalokjnbccjnaaGreatDoor

namespace Go.Proofs.YtnalokjnbccjnaaGreatDoor
open Go.RowKit Go.Joins Go.ChangeShapes Go.WideShapes Go.Deep

theorem open_bytes1 {H : Type} {enc : TypeId × Value → H} {W : World} {fuel : Nat} {c : Value} {x : DataW H × List MemPlace} (hf : DataW.trod enc Tryz.prog W 0 (fun _ => true) true fuel 45 [c] = some x) : ∃ l, RB W c l := by
  rcases open_ints Tryz.underlying45 Tryz.underlying5 (by kernel_rfl) hf with ⟨hcs, _⟩ | ⟨x, l, c, zs, hcs, _, hl, hm, hz, _, hcell, hwz⟩
  · simp only [List.cons.injEq, and_true] at hcs
    subst hcs
    exact ⟨[], RB.nil _⟩
  · simp only [List.cons.injEq, and_true] at hcs
    subst hcs
    exact rb_of_row (.inr ⟨_, rfl, hl, hm, by simpa using hz, hcell, hwz⟩)
theorem list_of_op {α : Type} (n : Nat) (p : Nat → α → Prop) (h : ∀ i, i < n → ∃ x, p i x) : ∃ l : List α, l.length = n ∧ ∀ i (hi : i < l.length), p i l[i] := by
  induction n with
  | zero => exact ⟨[], rfl, fun i hi => absurd hi (by simp)⟩
  | succ n ih =>
    obtain ⟨l, hl, hp⟩ := ih fun i hi => h i (by omega)
    obtain ⟨x, hx⟩ := h n (by omega)
    refine ⟨l ++ [x], by simp [hl], fun i hi => ?_⟩
    by_cases hin : i < l.length
    · rw [List.getElem_append_left hin]; exact hp i hin
    · obtain rfl : i = n := by simp at hi; omega
      simpa [hl] using hx

end Go.Proofs.YtnalokjnbccjnaaGreatDoor

namespace Go.Proofs.YtnalokjnbccjnaaGreatDoor
open Go.RowKit Go.Joins Go.ChangeShapes Go.WideShapes Go.Deep

/-- Name, Gone, B and its bytes. -/
structure PutA where
  nm : ByteArray
  gn : Bool
  bv : Value
  bs : List UInt8
structure PutOk (w : World) (x : PutA) : Prop where
  wn : x.nm.size ≤ maxLen
  rb : RB w x.bv x.bs
theorem PutOk.below {w w' : World} {x : PutA} (h : PutOk w x) (hb : Below w.heap.size w w') : PutOk w' x := ⟨h.wn, h.rb.below hb⟩
set_option maxRecDepth 100000 in
theorem put_cells {H : Type} {enc : TypeId × Value → H} {W : World} {fuel : Nat} {c0 c1 c2 : Value} {x : DataW H × List MemPlace} (h : DataW.trod enc Tryz.prog W 0 (fun _ => true) true fuel 47 [c0, c1, c2] = some x) :
    ∃ y : PutA, c0 = .string y.nm ∧ c1 = .bool y.gn ∧ c2 = y.bv ∧ PutOk W y := by
  have g0 : Tryz.prog.cellsOf 9 = 1 := by kernel_rfl
  have g1 : Tryz.prog.cellsOf 4 = 1 := by kernel_rfl
  have g2 : Tryz.prog.cellsOf 45 = 1 := by kernel_rfl
  obtain ⟨y0, y1, y2, m, -, -, h0, h1, h2⟩ := trod_struct3 Tryz.underlying47 h
  simp only [g0, g1, g2, List.drop_zero, List.drop_succ_cons, List.take_succ_cons, List.take_zero] at h0 h1 h2
  obtain ⟨a, e0, -, w0⟩ := DataW.trod_string Tryz.underlying9 h0
  obtain ⟨b, e1, -⟩ := DataW.trod_bool Tryz.underlying4 h1
  obtain ⟨l, hl⟩ := open_bytes1 h2
  simp only [List.cons.injEq, and_true] at e0 e1
  exact ⟨⟨a, b, c2, l⟩, e0, e1, rfl, w0, hl⟩
/-- v, a slice of puts, reads as l. -/
def RPa (w : World) (v : Value) (l : List PutA) : Prop :=
  ∃ a cap, v = .slice a l.length cap ∧ l.length ≤ cap ∧ cap ≤ maxLen ∧ (∀ x ∈ l, PutOk w x) ∧
    (l ≠ [] → ∃ b o, a = some ⟨b, o, none⟩ ∧ ∀ i (h : i < l.length), w.cell? ⟨b, o + i * 3, none⟩ = some (.string l[i].nm) ∧ w.cell? ⟨b, o + i * 3 + 1, none⟩ = some (.bool l[i].gn) ∧ w.cell? ⟨b, o + i * 3 + 2, none⟩ = some l[i].bv)
set_option maxRecDepth 100000 in
theorem open_puts1 {H : Type} {enc : TypeId × Value → H} {W : World} {fuel : Nat} {c : Value} {x : DataW H × List MemPlace} (hf : DataW.trod enc Tryz.prog W 0 (fun _ => true) true fuel 31 [c] = some x) : ∃ l, RPa W c l := by
  rcases open_slice Tryz.underlying31 hf with ⟨hcs, -⟩ | ⟨x, len, cap, m, n, D, Pl, hcs, hb, hl, hm, hmm, -, hi⟩
  · simp only [List.cons.injEq, and_true] at hcs
    subst hcs
    exact ⟨[], none, 0, rfl, Nat.le_refl _, by simp [maxLen], (fun x hx => by cases hx), fun h => absurd rfl h⟩
  · simp only [List.cons.injEq, and_true] at hcs
    subst hcs
    have hC : Tryz.prog.cellsOf 47 = 3 := by kernel_rfl
    simp only [if_true] at hmm
    subst hmm
    have key : ∀ i, i < len → ∃ y : PutA, PutOk W y ∧ W.cell? (x.add (i * 3)) = some (.string y.nm) ∧ W.cell? ((x.add (i * 3)).add 1) = some (.bool y.gn) ∧ W.cell? ((x.add (i * 3)).add 2) = some y.bv := by
      intro i hil
      obtain ⟨cs', hc, ht⟩ := hi i (by omega)
      rw [hC] at hc
      obtain ⟨-, hcl, hat⟩ := World.cells?_some hc
      obtain ⟨c0, c1, c2, rfl⟩ : ∃ c0 c1 c2, cs' = [c0, c1, c2] := by
        match cs', hcl with
        | [c0, c1, c2], _ => exact ⟨c0, c1, c2, rfl⟩
      obtain ⟨y, rfl, rfl, rfl, ok⟩ := put_cells ht
      have hz : (x.add (i * 3)).add 0 = x.add (i * 3) := by generalize x.add (i * 3) = y; unfold Addr.add; simp
      have t0 := hat 0 (by omega)
      rw [hz] at t0
      exact ⟨y, ok, t0, hat 1 (by omega), hat 2 (by omega)⟩
    obtain ⟨L, hL, hp⟩ := list_of_op len _ key
    subst hL
    refine ⟨L, some x, _, rfl, hl, hm, ?_, ?_⟩
    · intro y hy
      obtain ⟨i, hi', rfl⟩ := List.mem_iff_getElem.1 hy
      exact (hp i hi').1
    · intro hne
      obtain ⟨b, o, spot⟩ := x
      have h0 := (hp 0 (List.length_pos_iff.2 hne)).2.1
      have hspot : spot = none := by simpa [Addr.add] using World.cell?_spot h0
      subst hspot
      have hadd (j k : Nat) : (⟨b, j, none⟩ : Addr).add k = ⟨b, j + k, none⟩ := by unfold Addr.add; split <;> simp_all
      refine ⟨b, o, rfl, fun i hi' => ?_⟩
      have := (hp i hi').2
      rw [hadd, hadd, hadd] at this
      exact this
theorem RPa.below {w w' : World} {v : Value} {l : List PutA} (h : RPa w v l) (hb : Below w.heap.size w w') : RPa w' v l := by
  obtain ⟨a, cap, hv, h1, h2, h3, h4⟩ := h
  refine ⟨a, cap, hv, h1, h2, fun x hx => (h3 x hx).below hb, fun hl => ?_⟩
  obtain ⟨b, o, ha, hc⟩ := h4 hl
  have hlt := World.block_lt_of_cell? w _ (hc 0 (List.length_pos_iff.2 hl)).1
  refine ⟨b, o, ha, fun i hi => ?_⟩
  obtain ⟨c0, c1, c2⟩ := hc i hi
  exact ⟨(hb.cell (by exact hlt)).trans c0, (hb.cell (by exact hlt)).trans c1, (hb.cell (by exact hlt)).trans c2⟩
theorem RPa.get {w : World} {a : Option Addr} {len cap : Nat} {l : List PutA} (h : RPa w (.slice a len cap) l) (i : Nat) (hi : i < len) : ∃ b o x, a = some ⟨b, o, none⟩ ∧ PutOk w x ∧ l[i]? = some x ∧
    w.cell? ⟨b, o + i * 3, none⟩ = some (.string x.nm) ∧ w.cell? ⟨b, o + i * 3 + 1, none⟩ = some (.bool x.gn) ∧ w.cell? ⟨b, o + i * 3 + 2, none⟩ = some x.bv := by
  obtain ⟨a', cap', hv, h1, h2, h3, h4⟩ := h
  simp only [Value.slice.injEq] at hv
  obtain ⟨rfl, rfl, rfl⟩ := hv
  obtain ⟨b, o, rfl, hc⟩ := h4 (by intro e; subst e; simp at hi)
  obtain ⟨c0, c1, c2⟩ := hc i hi
  exact ⟨b, o, l[i], rfl, h3 _ (List.getElem_mem hi), List.getElem?_eq_getElem hi, c0, c1, c2⟩
theorem RPa.len {w : World} {a : Option Addr} {len cap : Nat} {l : List PutA} (h : RPa w (.slice a len cap) l) : len = l.length ∧ len ≤ 9223372036854775807 := by
  obtain ⟨a', cap', hv, h1, h2, -⟩ := h
  simp only [Value.slice.injEq] at hv
  obtain ⟨rfl, rfl, rfl⟩ := hv
  exact ⟨rfl, by unfold maxLen at h2; omega⟩

/-- Kind, N, L and its puts, Keep and its bools. -/
structure OpS where
  kind : Int
  n : Int
  lv : Value
  ps : List PutA
  kv : Value
  ks : List Bool
structure OpSOk (w : World) (x : OpS) : Prop where
  wk : (Lit.int .i64 x.kind).wf = true
  wn : (Lit.int .i64 x.n).wf = true
  rp : RPa w x.lv x.ps
  rk : RV w x.kv (zb x.ks)
theorem OpSOk.below {w w' : World} {x : OpS} (h : OpSOk w x) (hb : Below w.heap.size w w') : OpSOk w' x := ⟨h.wk, h.wn, h.rp.below hb, h.rk.below hb⟩
theorem open_bools1 {H : Type} {enc : TypeId × Value → H} {W : World} {fuel : Nat} {c : Value} {x : DataW H × List MemPlace} (hf : DataW.trod enc Tryz.prog W 0 (fun _ => true) true fuel 32 [c] = some x) : ∃ l, RV W c (zb l) := by
  have hform : ∃ a len cap, c = .slice a len cap := by
    rcases Go.Deep.open_bools Tryz.underlying32 Tryz.underlying4 (by kernel_rfl) hf with ⟨hcs, -⟩ | ⟨x, l, c, B, hcs, -⟩
    · simp only [List.cons.injEq, and_true] at hcs
      exact ⟨_, _, _, hcs⟩
    · simp only [List.cons.injEq, and_true] at hcs
      exact ⟨_, _, _, hcs⟩
  obtain ⟨a, len, cap, rfl⟩ := hform
  exact open_zb Tryz.underlying32 Tryz.underlying4 (by kernel_rfl) ⟨fuel, by simpa [Value.cells] using hf⟩
set_option maxRecDepth 100000 in
theorem ops_cells {H : Type} {enc : TypeId × Value → H} {W : World} {fuel : Nat} {c0 c1 c2 c3 : Value} {x : DataW H × List MemPlace} (h : DataW.trod enc Tryz.prog W 0 (fun _ => true) true fuel 34 [c0, c1, c2, c3] = some x) :
    ∃ y : OpS, c0 = .int .i64 y.kind ∧ c1 = .int .i64 y.n ∧ c2 = y.lv ∧ c3 = y.kv ∧ OpSOk W y := by
  have g0 : Tryz.prog.cellsOf 3 = 1 := by kernel_rfl
  have g1 : Tryz.prog.cellsOf 31 = 1 := by kernel_rfl
  have g2 : Tryz.prog.cellsOf 32 = 1 := by kernel_rfl
  obtain ⟨y0, y1, y2, y3, m, -, -, h0, h1, h2, h3⟩ := trod_struct4 Tryz.underlying34 h
  simp only [g0, g1, g2, List.drop_zero, List.drop_succ_cons, List.take_succ_cons, List.take_zero] at h0 h1 h2 h3
  obtain ⟨a, e0, -, w0⟩ := DataW.trod_int Tryz.underlying3 h0
  obtain ⟨b, e1, -, w1⟩ := DataW.trod_int Tryz.underlying3 h1
  obtain ⟨l, hl⟩ := open_puts1 h2
  obtain ⟨k, hk⟩ := open_bools1 h3
  simp only [List.cons.injEq, and_true] at e0 e1
  exact ⟨⟨a, b, c2, l, c3, k⟩, e0, e1, rfl, rfl, w0, w1, hl, hk⟩
/-- v, a slice of Ops, reads as l. -/
def ROpS (w : World) (v : Value) (l : List OpS) : Prop :=
  ∃ a cap, v = .slice a l.length cap ∧ l.length ≤ cap ∧ cap ≤ maxLen ∧ (∀ x ∈ l, OpSOk w x) ∧
    (l ≠ [] → ∃ b o, a = some ⟨b, o, none⟩ ∧ ∀ i (h : i < l.length), w.cell? ⟨b, o + i * 4, none⟩ = some (.int .i64 l[i].kind) ∧ w.cell? ⟨b, o + i * 4 + 1, none⟩ = some (.int .i64 l[i].n) ∧ w.cell? ⟨b, o + i * 4 + 2, none⟩ = some l[i].lv ∧ w.cell? ⟨b, o + i * 4 + 3, none⟩ = some l[i].kv)
set_option maxRecDepth 100000 in
theorem open_opss {H : Type} {enc : TypeId × Value → H} {W : World} {a : Option Addr} {len cap : Nat} {d : DataW H} {p : List MemPlace} (h : DataW.Trod enc Tryz.prog W 0 (fun _ => true) true 22 (.slice a len cap) d p) :
    ∃ l, ROpS W (.slice a len cap) l := by
  obtain ⟨fuel, hf⟩ := h
  rcases open_slice Tryz.underlying22 hf with ⟨hcs, -⟩ | ⟨x, l, c, m, n, D, Pl, hcs, hb, hl, hm, hmm, -, hi⟩
  · simp [Value.cells] at hcs
    obtain ⟨rfl, rfl, rfl⟩ := hcs
    exact ⟨[], none, 0, rfl, Nat.le_refl _, by simp [maxLen], (fun x hx => by cases hx), fun h => absurd rfl h⟩
  · simp [Value.cells] at hcs
    obtain ⟨rfl, rfl, rfl⟩ := hcs
    have hC : Tryz.prog.cellsOf 34 = 4 := by kernel_rfl
    simp only [if_true] at hmm
    subst hmm
    have key : ∀ i, i < len → ∃ y : OpS, OpSOk W y ∧ W.cell? (x.add (i * 4)) = some (.int .i64 y.kind) ∧ W.cell? ((x.add (i * 4)).add 1) = some (.int .i64 y.n) ∧ W.cell? ((x.add (i * 4)).add 2) = some y.lv ∧ W.cell? ((x.add (i * 4)).add 3) = some y.kv := by
      intro i hil
      obtain ⟨cs', hc, ht⟩ := hi i (by omega)
      rw [hC] at hc
      obtain ⟨-, hcl, hat⟩ := World.cells?_some hc
      obtain ⟨c0, c1, c2, c3, rfl⟩ : ∃ c0 c1 c2 c3, cs' = [c0, c1, c2, c3] := by
        match cs', hcl with
        | [c0, c1, c2, c3], _ => exact ⟨c0, c1, c2, c3, rfl⟩
      obtain ⟨y, rfl, rfl, rfl, rfl, ok⟩ := ops_cells ht
      have hz : (x.add (i * 4)).add 0 = x.add (i * 4) := by generalize x.add (i * 4) = y; unfold Addr.add; simp
      have t0 := hat 0 (by omega)
      rw [hz] at t0
      exact ⟨y, ok, t0, hat 1 (by omega), hat 2 (by omega), hat 3 (by omega)⟩
    obtain ⟨L, hL, hp⟩ := list_of_op len _ key
    subst hL
    refine ⟨L, some x, _, rfl, hl, hm, ?_, ?_⟩
    · intro y hy
      obtain ⟨i, hi', rfl⟩ := List.mem_iff_getElem.1 hy
      exact (hp i hi').1
    · intro hne
      obtain ⟨b, o, spot⟩ := x
      have h0 := (hp 0 (List.length_pos_iff.2 hne)).2.1
      have hspot : spot = none := by simpa [Addr.add] using World.cell?_spot h0
      subst hspot
      have hadd (j k : Nat) : (⟨b, j, none⟩ : Addr).add k = ⟨b, j + k, none⟩ := by unfold Addr.add; split <;> simp_all
      refine ⟨b, o, rfl, fun i hi' => ?_⟩
      have := (hp i hi').2
      rw [hadd, hadd, hadd, hadd] at this
      exact this
theorem ROpS.below {w w' : World} {v : Value} {l : List OpS} (h : ROpS w v l) (hb : Below w.heap.size w w') : ROpS w' v l := by
  obtain ⟨a, cap, hv, h1, h2, h3, h4⟩ := h
  refine ⟨a, cap, hv, h1, h2, fun x hx => (h3 x hx).below hb, fun hl => ?_⟩
  obtain ⟨b, o, ha, hc⟩ := h4 hl
  have hlt := World.block_lt_of_cell? w _ (hc 0 (List.length_pos_iff.2 hl)).1
  refine ⟨b, o, ha, fun i hi => ?_⟩
  obtain ⟨c0, c1, c2, c3⟩ := hc i hi
  exact ⟨(hb.cell (by exact hlt)).trans c0, (hb.cell (by exact hlt)).trans c1, (hb.cell (by exact hlt)).trans c2, (hb.cell (by exact hlt)).trans c3⟩
theorem ROpS.get {w : World} {a : Option Addr} {len cap : Nat} {l : List OpS} (h : ROpS w (.slice a len cap) l) (i : Nat) (hi : i < len) : ∃ b o x, a = some ⟨b, o, none⟩ ∧ OpSOk w x ∧ l[i]? = some x ∧
    w.cell? ⟨b, o + i * 4, none⟩ = some (.int .i64 x.kind) ∧ w.cell? ⟨b, o + i * 4 + 1, none⟩ = some (.int .i64 x.n) ∧ w.cell? ⟨b, o + i * 4 + 2, none⟩ = some x.lv ∧ w.cell? ⟨b, o + i * 4 + 3, none⟩ = some x.kv := by
  obtain ⟨a', cap', hv, h1, h2, h3, h4⟩ := h
  simp only [Value.slice.injEq] at hv
  obtain ⟨rfl, rfl, rfl⟩ := hv
  obtain ⟨b, o, rfl, hc⟩ := h4 (by intro e; subst e; simp at hi)
  obtain ⟨c0, c1, c2, c3⟩ := hc i hi
  exact ⟨b, o, l[i], rfl, h3 _ (List.getElem_mem hi), List.getElem?_eq_getElem hi, c0, c1, c2, c3⟩
theorem ROpS.len {w : World} {a : Option Addr} {len cap : Nat} {l : List OpS} (h : ROpS w (.slice a len cap) l) : len = l.length ∧ len ≤ 9223372036854775807 := by
  obtain ⟨a', cap', hv, h1, h2, -⟩ := h
  simp only [Value.slice.injEq] at hv
  obtain ⟨rfl, rfl, rfl⟩ := hv
  exact ⟨rfl, by unfold maxLen at h2; omega⟩

end Go.Proofs.YtnalokjnbccjnaaGreatDoor

namespace Go.Proofs.YtnalokjnbccjnaaGreatDoor
open Go.RowKit

/-- A put in a new block. -/
def NewPut (w : World) (B : Nat) (v : Value) (nm : ByteArray) (gn : Bool) (bs : List UInt8) : Prop :=
  ∃ (q : Nat) (a : Option Addr) (n c : Nat), v = .slice (some ⟨q, 0, none⟩) 1 1 ∧ w.heap[q]? = some (.cells (ept (nm, gn, (a, n, c), bs)).toArray 47) ∧ Own 5 w B (.slice a n c) bs
theorem NewPut.below {w w' : World} {B : Nat} {v : Value} {nm : ByteArray} {gn : Bool} {bs : List UInt8} (h : NewPut w B v nm gn bs) (hb : Below w.heap.size w w') : NewPut w' B v nm gn bs := by
  obtain ⟨q, a, n, c, h1, h2, h3⟩ := h
  exact ⟨q, a, n, c, h1, (hb.block q (Array.getElem?_eq_some_iff.1 h2).1).trans h2, h3.below hb⟩
theorem NewPut.rpt {w : World} {B : Nat} {v : Value} {nm : ByteArray} {gn : Bool} {bs : List UInt8} (h : NewPut w B v nm gn bs) : ∃ (q : Nat) (sl : Option Addr × Nat × Nat), v = .slice (some ⟨q, 0, none⟩) 1 1 ∧ RPt w v [(nm, gn, sl, bs)] := by
  obtain ⟨q, a, n, c, rfl, hq, ho⟩ := h
  refine ⟨q, (a, n, c), rfl, .inr ⟨q, 1, _, (0, 0), rfl, hq, fun i hi => ?_⟩, fun y hy => by rw [List.mem_singleton.1 hy]; exact ho.tx⟩
  obtain rfl : i = 0 := by simpa using hi
  refine ⟨?_, ?_, ?_⟩ <;> rw [cell_of_row _ _ _ _ _ _ hq] <;> rfl
/-- A put as a value. -/
def AggPut (w : World) (B : Nat) (v : Value) (nm : ByteArray) (gn : Bool) (bs : List UInt8) : Prop :=
  ∃ (a : Option Addr) (n c : Nat), v = .agg #[.string nm, .bool gn, .slice a n c] ∧ Own 5 w B (.slice a n c) bs
theorem AggPut.below {w w' : World} {B : Nat} {v : Value} {nm : ByteArray} {gn : Bool} {bs : List UInt8} (h : AggPut w B v nm gn bs) (hb : Below w.heap.size w w') : AggPut w' B v nm gn bs := by
  obtain ⟨a, n, c, h1, h3⟩ := h
  exact ⟨a, n, c, h1, h3.below hb⟩
theorem idx_putA (b o n cap j : Nat) (h : j < n) (W : World) : (Instr.indexAt 31 (.slice (some ⟨b, o, none⟩) n cap) (.int .i64 (j : Int))).run Tryz.prog W = .ok (.pointer (some ⟨b, o + j * 3, none⟩)) W := by
  obtain ⟨i, hi, -, hsize, -⟩ := info_parts infoPu
  have he : Tryz.prog.elem 31 = 47 := by kernel_rfl
  have hs : (sizeOf 47).run Tryz.prog W = .ok 3 W := by simp [sizeOf, typeInfo, hi, hsize]
  have hadd : (⟨b, o, none⟩ : Addr).add (j * 3) = ⟨b, o + j * 3, none⟩ := by unfold Addr.add; split <;> simp_all
  rw [run_indexAt_slice W _ _ _ _ _ _ (by rw [he]; exact Tryz.underlying31), if_pos ⟨by omega, by omega⟩, he, hs]
  simp [Result.andThen, hadd]
theorem str_cut (s : ByteArray) : (str ((bl s).take 22)).size ≤ 22 := by
  simp [str, ByteArray.size]
  omega
def VCt (u : Value) (b o n cap0 k wb : Nat) (nm nm2 : ByteArray) (gn : Bool) (bv : Value) (bs2 : List UInt8) : Nat → World → Value → Prop
  | 15, _, v => v = u
  | 16, _, v => v = .slice (some ⟨b, o, none⟩) n cap0
  | 17, _, v => v = .int .i64 (k : Int)
  | 18, _, v => v = .pointer (some ⟨b, o + k * 3, none⟩)
  | 19, _, v => v = .pointer (some ⟨b, o + k * 3, none⟩)
  | 20, _, v => v = .string nm
  | 21, _, v => v = .string nm2
  | 22, _, v => v = .slice (some ⟨b, o, none⟩) n cap0
  | 23, _, v => v = .int .i64 (k : Int)
  | 24, _, v => v = .pointer (some ⟨b, o + k * 3, none⟩)
  | 25, _, v => v = .pointer (some ⟨b, o + k * 3 + 1, none⟩)
  | 26, _, v => v = .bool gn
  | 27, _, v => v = .slice (some ⟨b, o, none⟩) n cap0
  | 28, _, v => v = .int .i64 (k : Int)
  | 29, _, v => v = .pointer (some ⟨b, o + k * 3, none⟩)
  | 30, _, v => v = .pointer (some ⟨b, o + k * 3 + 2, none⟩)
  | 31, _, v => v = bv
  | 32, w, v => RB w v bs2
  | 33, w, v => Own 5 w wb v bs2
  | 34, w, v => AggPut w wb v nm2 gn bs2
  | 35, w, v => NewPut w wb v nm2 gn bs2
  | _, _, _ => True

theorem VCt_below (u : Value) (b o n cap0 k wb : Nat) (nm nm2 : ByteArray) (gn : Bool) (bv : Value) (bs2 : List UInt8) : ∀ (i : Nat) (w w' : World) (v : Value), VCt u b o n cap0 k wb nm nm2 gn bv bs2 i w v → Below w.heap.size w w' → VCt u b o n cap0 k wb nm nm2 gn bv bs2 i w' v := by
  intro i w w' v h hb
  unfold VCt at h ⊢
  split at h <;> first | exact h | trivial | exact NewPut.below h hb | exact AggPut.below h hb | exact RB.below h hb | exact Own.below h hb | exact OwnV.below h hb

/-- What cut answers. -/
def CutOk (w : World) (B : Nat) (v : Value) (O : List PutT) : Prop := OwnPu w B v O ∧ O.length ≤ 6 ∧ ∀ x ∈ O, x.1.size ≤ 22 ∧ x.2.2.2.length ≤ 400
section
variable {w : World}
set_option maxHeartbeats 8000000 in
set_option maxRecDepth 100000 in
theorem cutl_c (v : Value) (l : List PutA) (hv : RPa w v l) :
    Calls Tryz.prog 13 #[v] w fun e w' => ∃ v' : Value, e = .returned v' ∧ (∃ O, CutOk w' w.heap.size v' O) ∧ Below w.heap.size w w' := by
  have HV := Go.Lib.hid hv
  obtain ⟨a0, cap0, rfl, hlc, hmx, -⟩ := hv
  unfold maxLen at hmx
  obtain ⟨n, hn⟩ : ∃ n, n = l.length := ⟨_, rfl⟩
  rw [← hn] at HV hlc ⊢
  have HN := Go.Lib.hid hn
  have hnI : (n : Int) ≤ 9223372036854775807 := by omega
  clear hlc hmx hn
  go_enter Tryz.func13, Tryz.ntmps13
  go_wp2_with fail
  go_loopw [3, 4] (fun ov iv wr => ∃ (k : Nat) (u : Value) (O : List PutT), u = ov ∧ k ≤ n ∧ k ≤ 6 ∧ iv = .int .i64 (k : Int) ∧ OwnPu wr w.heap.size u O ∧ O.length = k ∧ (∀ x ∈ O, x.1.size ≤ 22 ∧ x.2.2.2.length ≤ 400) ∧ Below w.heap.size w wr) (fun _ iv _ => 6 - (intOf iv).toNat)
  case atStart => exact ⟨0, _, [], rfl, by omega, by omega, rfl, OwnPu.nil _ _, rfl, fun x hx => absurd hx (by simp), Below.refl _ _⟩
  case round =>
    obtain ⟨k, u, O, rfl, hk, hk6, rfl, hO, hOl, hOs, hbw⟩ := hrel
    by_cases hlt : k < n
    · by_cases hlt6 : k < 6
      · obtain ⟨b, o, x, rfl, hok, -, hx0, hx1, hx2⟩ := (HV.out.below hbw).get k hlt
        obtain ⟨nm, gn, bv, bs⟩ := x
        simp only at hx0 hx1 hx2
        have hrb := hok.rb
        have hwn := hok.wn
        simp only at hrb hwn
        have HX3 := Go.Lib.hid (show ∀ W, Below wr.heap.size wr W → W.cell? ⟨b, o + k * 3, none⟩ = some (.string nm) ∧ W.cell? ⟨b, o + k * 3 + 1, none⟩ = some (.bool gn) ∧ W.cell? ⟨b, o + k * 3 + 2, none⟩ = some bv from fun W hW => ⟨keptC hx0 hW, keptC hx1 hW, keptC hx2 hW⟩)
        have D1 := Go.Lib.hid fun W => (lcut_c nm 22 W hwn (by omega)).mono (R' := fun e w' => e = .returned (.string (str ((bl nm).take 22))) ∧ Below W.heap.size W w') (by rintro e w' ⟨h1, rfl⟩; exact ⟨h1, Below.refl _ _⟩)
        have D2 := Go.Lib.hid fun W (hW : Below wr.heap.size wr W) => short_c bv bs 400 W (hrb.below hW) (by omega)
        have HNS := Go.Lib.hid (str_cut nm)
        have HBS := Go.Lib.hid (show (bs.take 400).length ≤ 400 from by rw [List.length_take]; omega)
        generalize bs.take 400 = bs2 at *
        generalize str ((bl nm).take 22) = nm2 at *
        have hkI : (k : Int) < (n : Int) := by omega
        have hkI6 : (k : Int) < 6 := by omega
        have HLT := Go.Lib.hid (And.intro hlt hlt6)
        have HO := Go.Lib.hid hO
        have HOL := Go.Lib.hid (And.intro hOl hOs)
        have HBW := Go.Lib.hid hbw
        have HIS := Go.Lib.hid (show ∀ W : World, (Instr.indexAt 31 (.slice (some ⟨b, o, none⟩) n cap0) (.int .i64 (k : Int))).run Tryz.prog W = .ok (.pointer (some ⟨b, o + k * 3, none⟩)) W from fun W => idx_putA b o n cap0 k hlt W)
        clear hlt hlt6 hk hk6 hO hOl hOs hbw hx0 hx1 hx2 hok hrb hwn
        go_upto_region 5 with (fail)
        refine wp_region_head 21 (by decide) (by kernel_rfl) (VCt u b o n cap0 k wr.heap.size nm nm2 gn bv bs2) (VCt_below u b o n cap0 k wr.heap.size nm nm2 gn bv bs2) (by decide +kernel) (by rfl) [15, 16, 17, 18, 19, 20, 21, 22, 23, 24, 25, 26, 27, 28, 29, 30, 31, 32, 33, 34, 35] (by rfl) ?_ ?_
        · intro i o hin ho a w6 hb6 hlen hg
          have hc3 := HX3.out w6 hb6
          match i, hin, ho with
          | 0, hin, ho =>
            obtain rfl := Option.some.inj ho
            have h3 := given_old hg 3 (by decide +kernel)
            clear hg
            exact st_yield ho (wanted_none rfl) (u) w6 (by simp [execOp, Act.eval, h3, go_sem]) ⟨_, rfl, Below.refl _ _, by rintro t' ⟨⟩; rfl⟩
          | 1, hin, ho =>
            obtain rfl := Option.some.inj ho
            have h0 := given_old hg 0 (by decide +kernel)
            clear hg
            exact st_yield ho (wanted_none rfl) (.slice (some ⟨b, o, none⟩) n cap0) w6 (by simp [execOp, Act.eval, h0, go_sem]) ⟨_, rfl, Below.refl _ _, by rintro t' ⟨⟩; rfl⟩
          | 2, hin, ho =>
            obtain rfl := Option.some.inj ho
            have h4 := given_old hg 4 (by decide +kernel)
            clear hg
            exact st_yield ho (wanted_none rfl) (.int .i64 (k : Int)) w6 (by simp [execOp, Act.eval, h4, go_sem]) ⟨_, rfl, Below.refl _ _, by rintro t' ⟨⟩; rfl⟩
          | 3, hin, ho =>
            obtain rfl := Option.some.inj ho
            obtain ⟨_, h16, rfl⟩ := given_fed hg 16 (by decide +kernel)
            obtain ⟨_, h17, rfl⟩ := given_fed hg 17 (by decide +kernel)
            clear hg
            exact st_yield ho (wanted_none rfl) (.pointer (some ⟨b, o + k * 3, none⟩)) w6 (by simp [execOp, Act.eval, h16, h17, go_sem, HIS.out, Result.andThen]) ⟨_, rfl, Below.refl _ _, by rintro t' ⟨⟩; rfl⟩
          | 4, hin, ho =>
            obtain rfl := Option.some.inj ho
            obtain ⟨_, h18, rfl⟩ := given_fed hg 18 (by decide +kernel)
            clear hg
            exact st_yield ho (wanted_none rfl) (.pointer (some ⟨b, o + k * 3, none⟩)) w6 (by simp [execOp, Act.eval, h18, go_sem]) ⟨_, rfl, Below.refl _ _, by rintro t' ⟨⟩; rfl⟩
          | 5, hin, ho =>
            obtain rfl := Option.some.inj ho
            obtain ⟨_, h19, rfl⟩ := given_fed hg 19 (by decide +kernel)
            clear hg
            exact st_yield ho (wanted_none rfl) (.string nm) w6 (by simp [execOp, Act.eval, h19, go_sem, hc3.1]) ⟨_, rfl, Below.refl _ _, by rintro t' ⟨⟩; rfl⟩
          | 6, hin, ho =>
            obtain rfl := Option.some.inj ho
            obtain ⟨_, h20, rfl⟩ := given_fed hg 20 (by decide +kernel)
            clear hg
            exact st_enter (w1 := w6) ho (wanted_none rfl) 26 #[.string nm, .int .i64 22] (by simp [execOp, Act.eval, h20, resolve, go_sem]) ((D1.out _).mono (by rintro e w7 ⟨rfl, hb7⟩; exact ⟨_, rfl, _, rfl, hb7, by rintro t' ⟨⟩; rfl⟩))
          | 7, hin, ho =>
            obtain rfl := Option.some.inj ho
            have h0 := given_old hg 0 (by decide +kernel)
            clear hg
            exact st_yield ho (wanted_none rfl) (.slice (some ⟨b, o, none⟩) n cap0) w6 (by simp [execOp, Act.eval, h0, go_sem]) ⟨_, rfl, Below.refl _ _, by rintro t' ⟨⟩; rfl⟩
          | 8, hin, ho =>
            obtain rfl := Option.some.inj ho
            have h4 := given_old hg 4 (by decide +kernel)
            clear hg
            exact st_yield ho (wanted_none rfl) (.int .i64 (k : Int)) w6 (by simp [execOp, Act.eval, h4, go_sem]) ⟨_, rfl, Below.refl _ _, by rintro t' ⟨⟩; rfl⟩
          | 9, hin, ho =>
            obtain rfl := Option.some.inj ho
            obtain ⟨_, h22, rfl⟩ := given_fed hg 22 (by decide +kernel)
            obtain ⟨_, h23, rfl⟩ := given_fed hg 23 (by decide +kernel)
            clear hg
            exact st_yield ho (wanted_none rfl) (.pointer (some ⟨b, o + k * 3, none⟩)) w6 (by simp [execOp, Act.eval, h22, h23, go_sem, HIS.out, Result.andThen]) ⟨_, rfl, Below.refl _ _, by rintro t' ⟨⟩; rfl⟩
          | 10, hin, ho =>
            obtain rfl := Option.some.inj ho
            obtain ⟨_, h24, rfl⟩ := given_fed hg 24 (by decide +kernel)
            clear hg
            exact st_yield ho (wanted_none rfl) (.pointer (some ⟨b, o + k * 3 + 1, none⟩)) w6 (by simp [execOp, Act.eval, h24, go_sem]) ⟨_, rfl, Below.refl _ _, by rintro t' ⟨⟩; rfl⟩
          | 11, hin, ho =>
            obtain rfl := Option.some.inj ho
            obtain ⟨_, h25, rfl⟩ := given_fed hg 25 (by decide +kernel)
            clear hg
            exact st_yield ho (wanted_none rfl) (.bool gn) w6 (by simp [execOp, Act.eval, h25, go_sem, hc3.2.1]) ⟨_, rfl, Below.refl _ _, by rintro t' ⟨⟩; rfl⟩
          | 12, hin, ho =>
            obtain rfl := Option.some.inj ho
            have h0 := given_old hg 0 (by decide +kernel)
            clear hg
            exact st_yield ho (wanted_none rfl) (.slice (some ⟨b, o, none⟩) n cap0) w6 (by simp [execOp, Act.eval, h0, go_sem]) ⟨_, rfl, Below.refl _ _, by rintro t' ⟨⟩; rfl⟩
          | 13, hin, ho =>
            obtain rfl := Option.some.inj ho
            have h4 := given_old hg 4 (by decide +kernel)
            clear hg
            exact st_yield ho (wanted_none rfl) (.int .i64 (k : Int)) w6 (by simp [execOp, Act.eval, h4, go_sem]) ⟨_, rfl, Below.refl _ _, by rintro t' ⟨⟩; rfl⟩
          | 14, hin, ho =>
            obtain rfl := Option.some.inj ho
            obtain ⟨_, h27, rfl⟩ := given_fed hg 27 (by decide +kernel)
            obtain ⟨_, h28, rfl⟩ := given_fed hg 28 (by decide +kernel)
            clear hg
            exact st_yield ho (wanted_none rfl) (.pointer (some ⟨b, o + k * 3, none⟩)) w6 (by simp [execOp, Act.eval, h27, h28, go_sem, HIS.out, Result.andThen]) ⟨_, rfl, Below.refl _ _, by rintro t' ⟨⟩; rfl⟩
          | 15, hin, ho =>
            obtain rfl := Option.some.inj ho
            obtain ⟨_, h29, rfl⟩ := given_fed hg 29 (by decide +kernel)
            clear hg
            exact st_yield ho (wanted_none rfl) (.pointer (some ⟨b, o + k * 3 + 2, none⟩)) w6 (by simp [execOp, Act.eval, h29, go_sem]) ⟨_, rfl, Below.refl _ _, by rintro t' ⟨⟩; rfl⟩
          | 16, hin, ho =>
            obtain rfl := Option.some.inj ho
            obtain ⟨_, h30, rfl⟩ := given_fed hg 30 (by decide +kernel)
            clear hg
            exact st_yield ho (wanted_none rfl) (bv) w6 (by simp [execOp, Act.eval, h30, go_sem, hc3.2.2]) ⟨_, rfl, Below.refl _ _, by rintro t' ⟨⟩; rfl⟩
          | 17, hin, ho =>
            obtain rfl := Option.some.inj ho
            obtain ⟨v31', h31, p31⟩ := given_fed hg 31 (by decide +kernel)
            have p31 : v31' = bv := p31
            rw [p31] at h31
            clear hg
            refine st_enter (w1 := w6) ho (wanted_none rfl) 25 #[bv, .int .i64 400] (by simp [execOp, Act.eval, h31, resolve, go_sem]) ((D2.out w6 hb6).mono ?_)
            rintro e w7 ⟨⟨v', rfl, hrb⟩, rfl⟩
            exact ⟨_, rfl, _, rfl, Below.refl _ _, by rintro t' ⟨⟩; exact hrb⟩
          | 18, hin, ho =>
            obtain rfl := Option.some.inj ho
            obtain ⟨v32, h32, p32⟩ := given_fed hg 32 (by decide +kernel)
            clear hg
            exact st_list ho (wanted_none rfl) fun Q' hQ => wpList_append_RB rfl (.const (.slice none 0 0)) (.tmp 32) 45 rfl wr.heap.size 5 Tryz.underlying45 info8 (.slice none 0 0) v32 [] bs2 (by simp [Act.eval]) (by simp [Act.eval, h32]) (Own.nil _ _ _) p32 (by have := HBS.out; simp only [List.length_nil]; omega) hb6.size (fun v' w' hown hg2 => wpList_nil (hQ _ _ ⟨v', rfl, (Below.refl _ _).grown hg2 (Nat.le_refl _) (fun j hj => by cases hj), by rintro t' ⟨⟩; exact hown⟩))
          | 19, hin, ho =>
            obtain rfl := Option.some.inj ho
            obtain ⟨_, h21, rfl⟩ := given_fed hg 21 (by decide +kernel)
            obtain ⟨_, h26, rfl⟩ := given_fed hg 26 (by decide +kernel)
            obtain ⟨v33, h33, p33⟩ := given_fed hg 33 (by decide +kernel)
            clear hg
            obtain ⟨a3, c3, hv3, -⟩ := p33.rb
            subst hv3
            exact st_yield ho (wanted_none rfl) (.agg #[.string nm2, .bool gn, .slice a3 bs2.length c3]) w6 (by simp [execOp, Act.eval, h21, h26, h33, go_sem]) ⟨_, rfl, Below.refl _ _, by rintro t' ⟨⟩; exact ⟨a3, _, c3, rfl, p33⟩⟩
          | 20, hin, ho =>
            obtain rfl := Option.some.inj ho
            obtain ⟨v34, h34, p34⟩ := given_fed hg 34 (by decide +kernel)
            clear hg
            obtain ⟨a3, n3, c3, hv3, ho3⟩ := p34
            subst hv3
            have hbz := newB w6 (.cells #[.string nm2, .bool gn, .slice a3 n3 c3] 47)
            exact st_yield ho (wanted_none rfl) (.slice (some ⟨w6.heap.size, 0, none⟩) 1 1) (w6.alloc (.cells #[.string nm2, .bool gn, .slice a3 n3 c3] 47)) (by simp [execOp, Act.eval, h34, go_sem]) ⟨_, rfl, hbz, by rintro t' ⟨⟩; exact ⟨_, a3, n3, c3, rfl, newPu w6 nm2 gn a3 n3 c3 bs2, ho3.below hbz⟩⟩
          | n + 21, hin, ho => omega
        · intro f5 w6 hb6 hv
          have h15 := hv 15 (by decide)
          have h35 := hv 35 (by decide)
          simp only [VCt] at h15 h35
          obtain ⟨q, a, m, c, e35, hq, hoq⟩ := h35
          have HB6 := Go.Lib.hid (below_to HBW.out (Nat.le_refl _) hb6)
          have HOP := Go.Lib.hid (HO.out.below hb6)
          have HNQ := Go.Lib.hid hq
          have HTX := Go.Lib.hid (show TX w6 (slV (a, m, c)) bs2 from hoq.tx)
          unfold putAll
          simp only [List.foldl, List.drop]
          simp only [h15, e35]
          clear hv hb6 h15 e35 hq hoq
          go_simp
          go_wp2_with (first
            | (with_reducible show wpList _ _ _ (⟨some 36, _, _, _, _, _⟩ :: _) _ _; go_must (refine wpList_append_put rfl (.tmp 15) (.tmp 35) rfl w.heap.size u O (nm2, gn, (a, m, c), bs2) q (0, 0) rfl rfl HOP.out HNQ.out HTX.out (by have := HOL.out.1; have := HLT.out; omega) HB6.out.size ?_); intro v7 w7 ho7 hg7; have HO7 := Go.Lib.hid ho7; go_must (have HB7 := Go.Lib.hid (HB6.out.grown hg7 HB6.out.size HOP.out.own)); clear ho7 hg7)
            | fail)
          go_roundw
          case rel => exact ⟨k + 1, _, _, rfl, by have := HLT.out; omega, by have := HLT.out; omega, by go_num, HO7.out, by rw [List.length_append, HOL.out.1]; rfl, fun x hx => (List.mem_append.1 hx).elim (HOL.out.2 x) fun h => by rw [List.mem_singleton.1 h]; exact ⟨HNS.out, HBS.out⟩, HB7.out⟩
          case measure => simp only [intOf]; have := HLT.out; omega
      · have hkI : (k : Int) < (n : Int) := by omega
        have hkI6 : ¬ (k : Int) < 6 := by omega
        have HF := Go.Lib.hid (And.intro hO (And.intro hOl (And.intro hOs hbw)))
        clear hO hOl hOs hbw hlt hlt6
        go_wp2_with fail
        go_ret
        exact ⟨_, rfl, ⟨O, HF.out.1, by rw [HF.out.2.1]; omega, HF.out.2.2.1⟩, HF.out.2.2.2⟩
    · have hkI : ¬ (k : Int) < (n : Int) := by omega
      have HF := Go.Lib.hid (And.intro hO (And.intro hOl (And.intro hOs hbw)))
      clear hO hOl hOs hbw hlt
      go_wp2_with fail
      go_ret
      exact ⟨_, rfl, ⟨O, HF.out.1, by rw [HF.out.2.1]; omega, HF.out.2.2.1⟩, HF.out.2.2.2⟩
end

end Go.Proofs.YtnalokjnbccjnaaGreatDoor

namespace Go.Proofs.YtnalokjnbccjnaaGreatDoor
open Go.RowKit

/-- It answers, and has just the files of nv. -/
def AliveS (W : World) (B n k : Nat) (dv sv nv bv : Value) : Prop :=
  ∃ (s d g p : Nat) (L : Life) (X : FL), dv = .pointer (some ⟨d, 0, none⟩) ∧ sv = .pointer (some ⟨s, 0, none⟩) ∧ bv = .bool false ∧ LW W B s d g p n L (k + 1) X ∧ L.calls ≤ 4 + 1400 * k ∧ OwnF W B nv X
/-- It is down: a crash leaves the files of nv, or those of mv. -/
def DownS (W : World) (B n k : Nat) (dv sv nv mv bv : Value) : Prop :=
  ∃ (s d g p : Nat) (X Y : FL), dv = .pointer (some ⟨d, 0, none⟩) ∧ sv = .pointer (some ⟨s, 0, none⟩) ∧ bv = .bool true ∧ LX W B s d g p n (k + 1) X Y ∧ OwnF W B nv X ∧ X.length ≤ 32 ∧ OwnF W B mv Y ∧ Y.length ≤ 32
def StS (W : World) (B n k : Nat) (dv sv nv mv bv : Value) : Prop := AliveS W B n k dv sv nv bv ∨ DownS W B n k dv sv nv mv bv
section
variable {W W' : World} {B n k : Nat} {dv sv nv mv bv : Value}
theorem AliveS.below (h : AliveS W B n k dv sv nv bv) (hb : Below W.heap.size W W') : AliveS W' B n k dv sv nv bv := by
  obtain ⟨s, d, g, p, L, X, h1, h2, h3, h4, h5, h6⟩ := h
  exact ⟨s, d, g, p, L, X, h1, h2, h3, h4.below hb, h5, h6.below hb⟩
theorem DownS.below (h : DownS W B n k dv sv nv mv bv) (hb : Below W.heap.size W W') : DownS W' B n k dv sv nv mv bv := by
  obtain ⟨s, d, g, p, X, Y, h1, h2, h3, h4, h5, h6, h7, h8⟩ := h
  exact ⟨s, d, g, p, X, Y, h1, h2, h3, h4.below hb, h5.below hb, h6, h7.below hb, h8⟩
theorem StS.below (h : StS W B n k dv sv nv mv bv) (hb : Below W.heap.size W W') : StS W' B n k dv sv nv mv bv := h.elim (fun h => .inl (h.below hb)) (fun h => .inr (h.below hb))
theorem StS.more (h : StS W B n k dv sv nv mv bv) : StS W B n (k + 1) dv sv nv mv bv := by
  rcases h with ⟨s, d, g, p, L, X, h1, h2, h3, h4, h5, h6⟩ | ⟨s, d, g, p, X, Y, h1, h2, h3, h4, h5, h6, h7, h8⟩
  · exact .inl ⟨s, d, g, p, L, X, h1, h2, h3, h4.turn (by omega), by omega, h6⟩
  · exact .inr ⟨s, d, g, p, X, Y, h1, h2, h3, h4.turn (by omega), h5, h6, h7, h8⟩
/-- A row of another type than the device's stays, whatever becomes of the device. -/
theorem dv_row {e : TypeId} {Bz sz m B' d g : Nat} {v : Value} {xs : List Value} {S : Nat → Sec} {L : Life} (hd : DV W B' d g n S L) (hr : W.ownsRow Bz e sz v m xs) (ht : Two d (some g) W W') (h1 : e ≠ 64) (h2 : e ≠ 88) : W'.ownsRow Bz e sz v m xs :=
  row_keep hr fun k cs fr _ hc => (Offs.two ht).block k (Array.getElem?_eq_some_iff.1 hc).1 (by have a := ap_dev hd hc h1 h2; simp [a.1, a.2])
theorem fuse_calls (L : Life) (x : Int) : (L.fuseTo x).calls = L.calls := by
  unfold Life.fuseTo
  split <;> rfl
/-- A fuse is set. -/
theorem fuse_any (h : StS W B n k dv sv nv mv bv) (x : Int) (h0 : -9223372036854775808 ≤ x) (h1 : x ≤ 9223372036854775807) :
    Calls Tryz.prog 18 #[dv, .int .i64 x] W fun e w' => e = .returned (.tuple #[]) ∧ StS w' B n k dv sv nv mv bv ∧ Below B W w' := by
  rcases h with ⟨s, d, g, p, L, X, rfl, rfl, rfl, h4, h5, h6⟩ | ⟨s, d, g, p, X, Y, rfl, rfl, rfl, h4, h5, h6, h7, h8⟩
  · refine (fuse_ok h4 x h0 h1).mono ?_
    rintro e w' ⟨rfl, h7, h8⟩
    obtain ⟨F, f, es, ls, h9, -⟩ := h4.out
    exact ⟨rfl, .inl ⟨s, d, g, p, _, X, rfl, rfl, rfl, h7, by rw [fuse_calls]; exact h5, dv_row h9.dv h6 h8 (by decide) (by decide)⟩, h8.belowDV h9.dv h4.size⟩
  · refine (fuse_down h4 x h0 h1).mono ?_
    rintro e w' ⟨rfl, h9, h10⟩
    obtain ⟨S', L', -, hd, -⟩ := h4.dv
    exact ⟨rfl, .inr ⟨s, d, g, p, X, Y, rfl, rfl, rfl, h9, dv_row hd h5 h10 (by decide) (by decide), h6, dv_row hd h7 h10 (by decide) (by decide), h8⟩, h10.belowDV hd h4.size⟩
/-- What a crash leaves: the files of nv, or, where the store was down, those of mv. -/
def CrS (W : World) (B _n _k : Nat) (nv mv bv : Value) (Z : FL) : Prop :=
  ∃ X : FL, OwnF W B nv X ∧ X.length ≤ 32 ∧ (Z = X ∨ (bv = .bool true ∧ OwnF W B mv Z ∧ Z.length ≤ 32))
theorem CrS.below {Z : FL} (h : CrS W B n k nv mv bv Z) (hb : Below W.heap.size W W') : CrS W' B n k nv mv bv Z := by
  obtain ⟨X, h1, h2, h3⟩ := h
  exact ⟨X, h1.below hb, h2, h3.imp id fun ⟨h4, h5, h6⟩ => ⟨h4, h5.below hb, h6⟩⟩
theorem crash_any (h : StS W B n k dv sv nv mv bv) (kv : Value) (keep : List Bool) (hv : RV W kv (zb keep)) :
    Calls Tryz.prog 19 #[dv, kv] W fun e w' => ∃ (d' g' : Nat) (Z : FL), e = .returned (.pointer (some ⟨d', 0, none⟩)) ∧ LD w' W.heap.size d' g' n (k + 1) Z ∧ CrS w' B n k nv mv bv Z ∧ Below W.heap.size W w' := by
  rcases h with ⟨s, d, g, p, L, X, rfl, rfl, rfl, h4, h5, h6⟩ | ⟨s, d, g, p, X, Y, rfl, rfl, rfl, h4, h5, h6, h7, h8⟩
  · refine (crash_ok h4 kv keep hv).mono ?_
    rintro e w' ⟨d', g', rfl, h7, h8⟩
    exact ⟨d', g', X, rfl, h7, ⟨X, h6.below h8, h4.len, .inl rfl⟩, h8⟩
  · refine (crash_down h4 kv keep hv).mono ?_
    rintro e w' ⟨d', g', Z, rfl, h9, h10, h11⟩
    refine ⟨d', g', Z, rfl, h10, ⟨X, h5.below h11, h6, ?_⟩, h11⟩
    rcases h9 with rfl | rfl
    · exact .inl rfl
    · exact .inr ⟨rfl, h7.below h11, h8⟩
/-- An Apply of what cut and done answered, of a store that answers: five ways. -/
def ApS (w w' : World) (B n k : Nat) (dv sv nv v15 : Value) (r16 r : Int) : Prop :=
  (r16 ≠ 0 ∧ r = r16 ∧ (r16 = 1 ∨ r16 = 5) ∧ AliveS w' B n (k + 1) dv sv nv (.bool false) ∧ Below B w w') ∨
  (r16 = 0 ∧ r = 0 ∧ AliveS w' B n (k + 1) dv sv v15 (.bool false) ∧ Below B w w') ∨
  (r16 = 0 ∧ r = 4 ∧ AliveS w' B n (k + 1) dv sv nv (.bool false) ∧ Below B w w') ∨
  (r16 = 0 ∧ r = 7 ∧ DownS w' B n (k + 1) dv sv nv v15 (.bool true) ∧ Below B w w')
theorem apply_s {s d g p : Nat} {L : Life} {X : FL} {O : List PutT} {v14 v15 : Value} {w0 : World} {r16 : Int} (h : LW W B s d g p n L (k + 1) X) (hc : L.calls ≤ 4 + 1400 * k) (hk : k ≤ 40) (hn : OwnF W B nv X) (hT : Tab W) (hB : 0 < B) (hO : CutOk W B v14 O) (hdn : DnWhat w0 W B X O v15 r16) :
    Calls Tryz.prog 16 #[.pointer (some ⟨s, 0, none⟩), v14] W fun e w' => ∃ r : Int, e = .returned (.int .i64 r) ∧ ApS W w' B n k (.pointer (some ⟨d, 0, none⟩)) (.pointer (some ⟨s, 0, none⟩)) nv v15 r16 r := by
  obtain ⟨hO1, hO2, hO3⟩ := hO
  obtain ⟨Y, hY, -, hcase⟩ := hdn
  have hsz := h.size
  rcases hcase with ⟨rfl, hmis⟩ | ⟨hmis, rfl, hcase⟩
  · refine (apply_form h hT hB hO1.rpt (by omega) (fun x hx => by have := (hO3 x hx).2; omega) hmis (by omega) (by omega)).mono ?_
    rintro e w' ⟨rfl, hb⟩
    exact ⟨1, rfl, .inl ⟨by decide, rfl, .inl rfl, ⟨s, d, g, p, L, X, rfl, rfl, rfl, (h.below hb).turn (by omega), by omega, hn.below hb⟩, hb.mono hsz⟩⟩
  · have hP : OkP O := any_mis_ok hmis fun x hx => by have := (hO3 x hx).2; omega
    have hXl := h.len
    by_cases hne : O = []
    · subst hne
      have hX0 : doneL X [] = X := rfl
      rw [hX0] at hcase hY
      rcases hcase with ⟨-, h5⟩ | ⟨rfl, -⟩
      · omega
      · refine (apply_idle h hT hB hO1.rpt (by omega) (by omega)).mono ?_
        rintro e w' ⟨rfl, hb⟩
        exact ⟨0, rfl, .inr (.inl ⟨rfl, rfl, ⟨s, d, g, p, L, X, rfl, rfl, rfl, (h.below hb).turn (by omega), by omega, hY.below hb⟩, hb.mono hsz⟩)⟩
    · refine (apply_any h hT hB hO1.rpt (by omega) hP hne (by omega) (by omega)).mono ?_
      rintro e w' ⟨r, rfl, hw⟩
      refine ⟨r, rfl, ?_⟩
      rcases hw with ⟨rfl, h5, hb⟩ | ⟨rfl, h5, hb, -⟩ | ⟨h5, ho, -, hb, hw⟩
      · rcases hcase with ⟨rfl, -⟩ | ⟨-, h6⟩
        · exact .inl ⟨by decide, rfl, .inr rfl, ⟨s, d, g, p, L, X, rfl, rfl, rfl, (h.below hb).turn (by omega), by omega, hn.below hb⟩, hb.mono hsz⟩
        · omega
      · rcases hcase with ⟨-, h6⟩ | ⟨rfl, h6⟩
        · omega
        · exact .inr (.inr (.inl ⟨rfl, rfl, ⟨s, d, g, p, L, X, rfl, rfl, rfl, (h.below hb).turn (by omega), by omega, hn.below hb⟩, hb.mono hsz⟩))
      · have hY' : OwnF w' B v15 (doneL X O) := h.rowKept hY ho (by decide) (by decide) (by decide) (by decide)
        have hn' : OwnF w' B nv X := h.rowKept hn ho (by decide) (by decide) (by decide) (by decide)
        rcases hcase with ⟨-, h6⟩ | ⟨rfl, h6⟩
        · omega
        · rcases hw with ⟨rfl, L', h7, h8⟩ | ⟨rfl, h8⟩
          · exact .inr (.inl ⟨rfl, rfl, ⟨s, d, g, p, L', doneL X O, rfl, rfl, rfl, h8, by omega, hY'⟩, hb⟩)
          · exact .inr (.inr (.inr ⟨rfl, rfl, ⟨s, d, g, p, X, doneL X O, rfl, rfl, rfl, h8, hn', hXl, hY', h6⟩, hb⟩))
/-- What is asked behind it, of a store that answers. -/
theorem has_s {s : Nat} (h : AliveS W B n k dv (.pointer (some ⟨s, 0, none⟩)) nv bv) :
    (Calls Tryz.prog 15 #[.pointer (some ⟨s, 0, none⟩)] W fun e w' => e = .returned (.bool false) ∧ W = w') ∧
    (Calls Tryz.prog 17 #[.pointer (some ⟨s, 0, none⟩), nv] W fun e w' => e = .returned (.bool true) ∧ Below W.heap.size W w') := by
  obtain ⟨s', d, g, p, L, X, h1, h2, h3, h4, h5, h6⟩ := h
  cases h2
  refine ⟨down_no h4, ?_⟩
  refine (has_c h4 nv X h6 (by have := h4.len; omega)).mono ?_
  rintro e w' ⟨r, rfl, hr, hb⟩
  exact ⟨by rw [hr.2 rfl], hb⟩
theorem down_s {s : Nat} (h : DownS W B n k dv (.pointer (some ⟨s, 0, none⟩)) nv mv bv) :
    (Calls Tryz.prog 15 #[.pointer (some ⟨s, 0, none⟩)] W fun e w' => e = .returned (.bool true) ∧ W = w') ∧
    (∀ v : Value, Calls Tryz.prog 16 #[.pointer (some ⟨s, 0, none⟩), v] W fun e w' => e = .returned (.int .i64 7) ∧ W = w') := by
  obtain ⟨s', d, g, p, X, Y, h1, h2, h3, h4, h5⟩ := h
  cases h2
  exact ⟨down_yes h4, apply_down h4⟩
theorem CutOk.below {v : Value} {O : List PutT} (h : CutOk W B v O) (hb : Below W.heap.size W W') : CutOk W' B v O := ⟨h.1.below hb, h.2⟩
theorem CutOk.mono {B' : Nat} {v : Value} {O : List PutT} (h : CutOk W B v O) (hB : B' ≤ B) : CutOk W B' v O := ⟨h.1.mono hB, h.2⟩
theorem DnWhat.bel {w0 : World} {X : FL} {O : List PutT} {v : Value} {r : Int} (h : DnWhat w0 W B X O v r) : Below w0.heap.size w0 W := by
  obtain ⟨Y, -, hb, -⟩ := h
  exact hb
end

end Go.Proofs.YtnalokjnbccjnaaGreatDoor
