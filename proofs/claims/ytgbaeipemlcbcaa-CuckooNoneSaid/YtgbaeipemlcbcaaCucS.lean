/-
  Stage 17: Set; what lies where, told by its places.
-/
import Derived.Test.YtgbaeipemlcbcaaCucP
namespace Go.Proofs.Ytgbaeipemlcbcaa
open Go.RowKit

/-! ### Mathematics: places and entries. -/
theorem hits_mem {T : SlT} {t b k : Nat} {p : Nat × Nat} : p ∈ hitsT T t b k ↔ p.1 = b ∧ p.2 < k ∧ hitO t (T (4 * b + p.2)) = true := by
  unfold hitsT
  rw [List.mem_map]
  constructor
  · rintro ⟨s, hs, rfl⟩
    rw [List.mem_filter, List.mem_range] at hs
    exact ⟨rfl, hs.1, hs.2⟩
  · rintro ⟨h1, h2, h3⟩
    exact ⟨p.2, by rw [List.mem_filter, List.mem_range]; exact ⟨h2, h3⟩, by rw [← h1]⟩
theorem hitO_some {t : Nat} {x : Option (Nat × Int)} (h : hitO t x = true) : x = some (t, idO x) := by
  cases x with
  | none => cases h
  | some y =>
    have h1 : y.1 = t := by simpa [hitO] using h
    rw [← h1]
    rfl
theorem places_mem {T : SlT} {x : Nat} {p : Nat × Nat} : p ∈ placesT T x ↔ (p.1 = firstN x ∨ p.1 = othN (firstN x) (tagN x)) ∧ p.2 < 4 ∧ hitO (tagN x) (T (4 * p.1 + p.2)) = true := by
  show p ∈ ([] ++ hitsT T (tagN x) (bkX x 0) 4) ++ hitsT T (tagN x) (bkX x 1) 4 ↔ _
  rw [List.nil_append, List.mem_append, hits_mem, hits_mem]
  have e0 : bkX x 0 = firstN x := rfl
  have e1 : bkX x 1 = othN (firstN x) (tagN x) := rfl
  rw [e0, e1]
  constructor
  · rintro (⟨h1, h2, h3⟩ | ⟨h1, h2, h3⟩)
    · exact ⟨.inl h1, h2, by rw [h1]; exact h3⟩
    · exact ⟨.inr h1, h2, by rw [h1]; exact h3⟩
  · rintro ⟨h1 | h1, h2, h3⟩
    · exact .inl ⟨h1, h2, by rw [h1] at h3; exact h3⟩
    · exact .inr ⟨h1, h2, by rw [h1] at h3; exact h3⟩
theorem places_lt {T : SlT} {x : Nat} {p : Nat × Nat} (h : p ∈ placesT T x) : p.1 < 8 ∧ p.2 < 4 ∧ T (4 * p.1 + p.2) = some (tagN x, idO (T (4 * p.1 + p.2))) ∧ keyN p.1 (tagN x) = keyH x := by
  obtain ⟨h1, h2, h3⟩ := places_mem.1 h
  have hf := first_lt x
  have ho := oth_lt (tagN x) hf
  refine ⟨by omega, h2, hitO_some h3, ?_⟩
  unfold keyH
  rcases h1 with h1 | h1
  · rw [h1]
  · rw [h1, keyN_oth _ hf]
theorem places_of {T : SlT} {x q : Nat} {i : Int} (hT : T q = some (tagN x, i)) (hq : q < 32) (hk : keyN (q / 4) (tagN x) = keyH x) : (q / 4, q % 4) ∈ placesT T x := by
  rw [places_mem]
  refine ⟨?_, Nat.mod_lt _ (by omega), ?_⟩
  · unfold keyH at hk
    exact ((keyN_iff (by omega) (first_lt x)).1 hk).2
  · rw [show 4 * (q / 4) + q % 4 = q by omega, hT]
    simp [hitO]
/-- An entry that is there lies in a slot. -/
theorem Fits.slot {T : SlT} {es : List EnT} (h : Fits T es) {k : Nat} (hk : k < es.length) : ∃ q, q < 32 ∧ T q = some (tagN es[k].1, es[k].2) ∧ keyN (q / 4) (tagN es[k].1) = keyH es[k].1 := by
  have h1 : keyE es[k] ∈ (slL T).map keyS := (List.Perm.mem_iff h).2 (List.mem_map.2 ⟨es[k], List.getElem_mem hk, rfl⟩)
  obtain ⟨y, hy, hye⟩ := List.mem_map.1 h1
  obtain ⟨q, hq, hqe⟩ := List.mem_filterMap.1 hy
  rw [Option.map_eq_some_iff] at hqe
  obtain ⟨z, hz, rfl⟩ := hqe
  have hq' := List.mem_range.1 hq
  unfold keyS keyE at hye
  rw [Prod.mk.injEq] at hye
  obtain ⟨h2, h3⟩ := hye
  simp only [] at h2 h3
  have h4 : z.1 = tagN es[k].1 := by
    have := congrArg Prod.snd h2
    simpa [keyN, keyH] using this
  refine ⟨q, hq', ?_, ?_⟩
  · rw [hz, ← h4, ← h3]
  · rw [← h4]; exact h2
/-- What lies in a slot is there. -/
theorem Fits.entry {T : SlT} {es : List EnT} (h : Fits T es) {q t : Nat} {i : Int} (hq : q < 32) (hT : T q = some (t, i)) : ∃ k, ∃ hk : k < es.length, keyE es[k] = (keyN (q / 4) t, i) := by
  have h1 : (keyN (q / 4) t, i) ∈ es.map keyE := (List.Perm.mem_iff h).1 (List.mem_map.2 ⟨(q / 4, t, i), List.mem_filterMap.2 ⟨q, List.mem_range.2 hq, by rw [hT]; rfl⟩, rfl⟩)
  obtain ⟨e, he, hee⟩ := List.mem_map.1 h1
  obtain ⟨k, hk, rfl⟩ := List.mem_iff_getElem.1 he
  exact ⟨k, hk, hee⟩

/-! ### A slot is written. -/
section
variable {w w' : World} {d : Nat} {T : SlT}
theorem CK.setSlot (h : CK w d T) {q : Nat} (hq : q < 32) (x : Option (Nat × Int)) (hx : ∀ y, x = some y → y.1 < 32768) : CK (w.setCells d (3 * q) (encO x)) d (putT T q x) := by
  obtain ⟨cs, fr, hr⟩ := h.row
  have hin : ∀ j, j < 3 → (w.setCells d (3 * q) (encO x)).cell? ⟨d, 3 * q + j, none⟩ = (encO x)[j]? := fun j hj => by
    rw [World.cell?_setCells_in d (encO x) (3 * q) w (fun i hi => by rw [h.cell q i hq hi, List.getElem?_eq_getElem (show i < (encO (T q)).length from hi)]; rfl) j hj]
    exact (List.getElem?_eq_getElem hj).symm
  have hout : ∀ p j, p < 32 → j < 3 → p ≠ q → (w.setCells d (3 * q) (encO x)).cell? ⟨d, 3 * p + j, none⟩ = w.cell? ⟨d, 3 * p + j, none⟩ := fun p j hp hj hne =>
    World.cell?_setCells_out d (encO x) (3 * q) w ⟨d, 3 * p + j, none⟩ (fun _ _ => by show 3 * p + j < 3 * q ∨ 3 * q + 3 ≤ 3 * p + j; omega)
  have hall : ∀ p j, p < 32 → j < 3 → (w.setCells d (3 * q) (encO x)).cell? ⟨d, 3 * p + j, none⟩ = (encO (putT T q x p))[j]? := fun p j hp hj => by
    unfold putT
    by_cases hpq : p = q
    · rw [if_pos hpq, hpq]; exact hin j hj
    · rw [if_neg hpq, hout p j hp hj hpq]; exact h.cell p j hp hj
  refine ⟨?_, ?_, fun o => by rw [World.frozen?_setCells]; exact h.fr o, fun p hp => hall p 0 hp (by omega), fun p hp => hall p 1 hp (by omega), fun p hp => hall p 2 hp (by omega)⟩
  · have key : ∀ (vs : List Value) (w : World) (o : Nat) (cs : Array Value), w.heap[d]? = some (.cells cs 53 fr) → ∃ cs', (w.setCells d o vs).heap[d]? = some (.cells cs' 53 fr) := by
      intro vs
      induction vs with
      | nil => intro w o cs hr; exact ⟨cs, hr⟩
      | cons v r ih =>
        intro w o cs hr
        rw [World.setCells]
        exact ih (w.setCell ⟨d, o, none⟩ v) (o + 1) (cs.setIfInBounds o v) (by simp [World.setCell, Array.getElem?_modify, hr])
    obtain ⟨cs', hc⟩ := key (encO x) w (3 * q) cs hr
    exact ⟨cs', fr, hc⟩
  · intro p y hy
    unfold putT at hy
    split at hy
    · rename_i e
      exact ⟨by omega, hx y hy⟩
    · exact h.tok p y hy
theorem CK.setId (h : CK w d T) {q t : Nat} {j : Int} (hq : q < 32) (hT : T q = some (t, j)) (i : Int) : CK (w.setCell ⟨d, 3 * q + 2, none⟩ (.int .i64 i)) d (putT T q (some (t, i))) := by
  obtain ⟨cs, fr, hr⟩ := h.row
  have hs : (w.setCell ⟨d, 3 * q + 2, none⟩ (.int .i64 i)).cell? ⟨d, 3 * q + 2, none⟩ = some (.int .i64 i) := World.cell?_setCell_same _ _ _ (h.id q hq)
  have ho : ∀ p j, (p ≠ q ∨ j ≠ 2) → j < 3 → (w.setCell ⟨d, 3 * q + 2, none⟩ (.int .i64 i)).cell? ⟨d, 3 * p + j, none⟩ = w.cell? ⟨d, 3 * p + j, none⟩ := fun p j hp hj =>
    World.cell?_setCell_other _ _ _ _ (fun e => by simp only [Addr.mk.injEq] at e; omega)
  have hne : ∀ p, p ≠ q → putT T q (some (t, i)) p = T p := fun p hp => by unfold putT; rw [if_neg hp]
  have heq : putT T q (some (t, i)) q = some (t, i) := by unfold putT; rw [if_pos rfl]
  refine ⟨⟨cs.setIfInBounds (3 * q + 2) (.int .i64 i), fr, by simp [World.setCell, Array.getElem?_modify, hr]⟩, ?_, fun o => by rw [World.frozen?_setCell]; exact h.fr o, fun p hp => ?_, fun p hp => ?_, fun p hp => ?_⟩
  · intro p y hy
    unfold putT at hy
    split at hy
    · rename_i e
      cases hy
      exact ⟨by omega, (h.tok q _ hT).2⟩
    · exact h.tok p y hy
  · rw [show 3 * p = 3 * p + 0 from rfl, ho p 0 (.inr (by omega)) (by omega)]
    by_cases e : p = q
    · rw [e, heq]; have := h.has q hq; rw [hT] at this; exact this
    · rw [hne p e]; exact h.has p hp
  · rw [ho p 1 (.inr (by omega)) (by omega)]
    by_cases e : p = q
    · rw [e, heq]; have := h.tag q hq; rw [hT] at this; exact this
    · rw [hne p e]; exact h.tag p hp
  · by_cases e : p = q
    · rw [e, heq]; exact hs
    · rw [ho p 2 (.inl e) (by omega), hne p e]; exact h.id p hp
end

/-! ### Set. -/
/-- The first place whose number is old, if there is one. -/
def idP (T : SlT) (p : Nat × Nat) : Int := idO (T (4 * p.1 + p.2))
set_option maxHeartbeats 1000000 in
set_option maxRecDepth 100000 in
theorem cset_w {w : World} {d : Nat} {T : SlT} (h : CK w d T) {x : Nat} {old i : Int} (hx : x < 18446744073709551616) (hi : idOk i = true) :
    Calls Try.prog 12 #[.pointer (some ⟨d, 0, none⟩), .int .u64 (x : Int), .int .i64 old, .int .i64 i] w fun e w' => (∃ p, p ∈ placesT T x ∧ idP T p = old ∧ e = .returned (.bool true) ∧ CK w' d (putT T (4 * p.1 + p.2) (some (tagN x, i))) ∧ Off1 d w w') ∨ ((∀ p ∈ placesT T x, idP T p ≠ old) ∧ e = .returned (.bool false) ∧ Below w.heap.size w w') := by
  have HD := Go.Lib.hid fun W (hW : Below w.heap.size w W) => h.below hW
  have PC := Go.Lib.hid (cplaces_c h hx)
  have MC := Go.Lib.hid (fun W => cmay_c i W)
  rw [hi] at MC
  have HPL := Go.Lib.hid fun (p : Nat × Nat) (hp : p ∈ placesT T x) => places_lt hp
  have HLN := Go.Lib.hid (show (placesT T x).length ≤ 8 from foundT_len T x 2)
  clear h hx hi
  generalize placesT T x = PL at *
  go_enter Try.func12, Try.ntmps12
  go_wp2_with fail
  refine (MC.out _).mono ?_
  rintro e w1 ⟨rfl, rfl⟩
  go_wp2_with fail
  refine PC.out.mono ?_
  rintro e w1 ⟨v, rfl, hown, hb1⟩
  obtain ⟨a, cap, rfl, hlm⟩ := hown.r.form
  have HR1 := Go.Lib.hid hown.r
  have HB1 := Go.Lib.hid hb1
  clear hown hb1 PC
  go_wp2_with fail
  go_loopw [19] (fun jv wr => ∃ j : Nat, j ≤ PL.length ∧ jv = .int .i64 (j : Int) ∧ Hid (∀ (k : Nat) (hk : k < PL.length), k < j → idP T PL[k] ≠ old) ∧ Below w1.heap.size w1 wr) (fun jv _ => PL.length - (intOf jv).toNat)
  case atStart => exact ⟨0, by omega, rfl, Go.Lib.hid fun k _ h => by omega, Below.refl _ _⟩
  case round =>
    obtain ⟨j, hj, rfl, hno, hbc⟩ := hrel
    by_cases hjl : j < PL.length
    · obtain ⟨b, o, rfl, -, hbs, c0, c1⟩ := KP.at' (HR1.out.below hbc) j hjl
      have hix := idxP b o PL.length cap j hjl wr
      obtain ⟨hp1, hp2, hp3, -⟩ := HPL.out PL[j] (List.getElem_mem hjl)
      have hmem := List.getElem_mem hjl
      have HNO := Go.Lib.hid (fun (hne : idP T PL[j] ≠ old) (k : Nat) (hk : k < PL.length) (h : k < j + 1) => show idP T PL[k] ≠ old from by
        by_cases e : k = j
        · subst e; exact hne
        · exact hno.out k hk (by omega))
      have hidp : idP T PL[j] = idO (T (4 * PL[j].1 + PL[j].2)) := rfl
      have HM := Go.Lib.hid hmem
      generalize hpj : PL[j] = pj at *
      obtain ⟨pb, ps⟩ := pj
      simp only [] at c0 c1 hp1 hp2 hp3 hidp
      have hck := HD.out wr (HB1.out.trans (hbc.mono HB1.out.size))
      obtain ⟨d0, d1, d2⟩ := hck.at hp1 hp2
      have hd := hck.lt
      have h1 := fun W => idxB d pb hp1 W
      have h2 := fun W => idxS d (12 * pb) ps hp2 W
      have hfr := hck.fr (12 * pb + 3 * ps + 2)
      have HCK := Go.Lib.hid (fun n => (hck.below (below_drewN ((Below.refl wr.heap.size wr).alloc (Nat.le_refl _) (.cells #[.int .i64 (pb : Int), .int .i64 (ps : Int)] 63)) n)).setId (q := 4 * pb + ps) (by omega) hp3 i)
      have hb2 := HB1.out.trans (hbc.mono HB1.out.size)
      have HBX := Go.Lib.hid (fun n => below_drewN (hb2.alloc hb2.size (.cells #[.int .i64 (pb : Int), .int .i64 (ps : Int)] 63)) n)
      have HBY := Go.Lib.hid (fun n => below_drewN (hbc.alloc hbc.size (.cells #[.int .i64 (pb : Int), .int .i64 (ps : Int)] 63)) n)
      rw [show 3 * (4 * pb + ps) + 2 = 12 * pb + 3 * ps + 2 by omega] at HCK
      rw [← hidp] at d2
      have HD2 := Go.Lib.hid d2
      clear hno hbc hb2 hmem hidp hp3 hck
      generalize hze : idP T (pb, ps) = z at *
      have HZE := Go.Lib.hid hze
      clear hze
      by_cases hz : z = old
      · have b1 : (z == old) = true := by simp [hz]
        have HZ := Go.Lib.hid hz
        clear hz HNO
        go_upto_region 6 with (fail)
        go_quiet (fail)
        go_wp2_with fail
        go_ret
        exact .inl ⟨(pb, ps), HM.out, HZE.out.trans HZ.out, rfl, HCK.out _, (Off1.of_below (HBX.out _)).set _ _⟩
      · have b1 : (z == old) = false := by simp [hz]
        have HZ := Go.Lib.hid (HNO.out hz)
        clear hz HNO
        go_upto_region 6 with (fail)
        go_quiet (fail)
        go_wp2_with fail
        go_roundw
        case rel => exact ⟨j + 1, by omega, by go_num, HZ, HBY.out _⟩
        case measure => simp only [intOf]; omega
    · obtain rfl : j = PL.length := by omega
      have HZ := Go.Lib.hid (show ∀ p ∈ PL, idP T p ≠ old from fun p hp => by
        obtain ⟨k, hk, rfl⟩ := List.mem_iff_getElem.1 hp
        exact hno.out k hk hk)
      have HB := Go.Lib.hid (HB1.out.trans (hbc.mono HB1.out.size))
      clear hno hbc hjl
      go_wp2_with fail
      go_ret
      exact .inr ⟨HZ.out, rfl, HB.out⟩

theorem cset_yes {w : World} {d : Nat} {T : SlT} {es : List EnT} (h : CK w d T) (hf : Fits T es) {x : Nat} {old i : Int} (hx : x < 18446744073709551616) (hi : idOk i = true) {k : Nat} (hk : k < es.length) (ho : es[k].2 = old) (hn : nearN x es[k].1 = true) :
    Calls Try.prog 12 #[.pointer (some ⟨d, 0, none⟩), .int .u64 (x : Int), .int .i64 old, .int .i64 i] w fun e w' => e = .returned (.bool true) ∧ (∃ T', CK w' d T' ∧ Fits T' (es.set k (es[k].1, i))) ∧ Off1 d w w' := by
  have hkey : keyH x = keyH es[k].1 := (near_iff _ _).1 hn
  refine (cset_w h hx hi).mono ?_
  rintro e w' (⟨p, hp, hid, rfl, hck, hoff⟩ | ⟨hno, rfl, -⟩)
  · obtain ⟨h1, h2, h3, h4⟩ := places_lt hp
    refine ⟨rfl, ⟨_, hck, ?_⟩, hoff⟩
    refine hf.turn (q := 4 * p.1 + p.2) (by omega) h3 hk ?_ i
    have e4 : (4 * p.1 + p.2) / 4 = p.1 := by omega
    unfold keyE keyS
    rw [e4, ← hkey, ho]
    simp only []
    rw [h4]
    exact congrArg _ hid.symm
  · obtain ⟨q, hq, hT, hkq⟩ := hf.slot hk
    have ht : tagN x = tagN es[k].1 := by
      have := congrArg Prod.snd hkey
      simpa [keyH, keyN] using this
    rw [← hkey, ← ht] at hkq
    rw [← ht] at hT
    have hm := places_of hT hq hkq
    refine absurd ?_ (hno _ hm)
    show idO (T (4 * (q / 4) + q % 4)) = old
    rw [show 4 * (q / 4) + q % 4 = q by omega, hT]
    exact ho
theorem cset_none (v : Option Addr) {x : Nat} {old i : Int} (w : World) (hi : idOk i = false) :
    Calls Try.prog 12 #[.pointer v, .int .u64 (x : Int), .int .i64 old, .int .i64 i] w fun e w' => e = .returned (.bool false) ∧ Below w.heap.size w w' := by
  have MC := Go.Lib.hid (fun W => cmay_c i W)
  rw [hi] at MC
  have HB := Go.Lib.hid (Below.refl w.heap.size w)
  clear hi
  go_enter Try.func12, Try.ntmps12
  go_wp2_with fail
  refine (MC.out _).mono ?_
  rintro e w1 ⟨rfl, rfl⟩
  go_wp2_with fail
  go_ret
  exact ⟨rfl, HB.out⟩
theorem cset_no {w : World} {d : Nat} {T : SlT} {es : List EnT} (h : CK w d T) (hf : Fits T es) {x : Nat} {old i : Int} (hx : x < 18446744073709551616) (_hw : (Lit.int .i64 i).wf = true) (hn : idOk i = false ∨ ∀ e ∈ es, e.2 = old → nearN x e.1 = false) :
    Calls Try.prog 12 #[.pointer (some ⟨d, 0, none⟩), .int .u64 (x : Int), .int .i64 old, .int .i64 i] w fun e w' => e = .returned (.bool false) ∧ Below w.heap.size w w' := by
  cases hi : idOk i with
  | false => exact cset_none _ w hi
  | true =>
    have hn2 : ∀ e ∈ es, e.2 = old → nearN x e.1 = false := by
      rcases hn with hn | hn
      · rw [hi] at hn; cases hn
      · exact hn
    refine (cset_w h hx hi).mono ?_
    rintro e w' (⟨p, hp, hid, rfl, -⟩ | ⟨-, rfl, hb⟩)
    · obtain ⟨h1, h2, h3, h4⟩ := places_lt hp
      obtain ⟨k, hk, hke⟩ := hf.entry (q := 4 * p.1 + p.2) (by omega) h3
      rw [show (4 * p.1 + p.2) / 4 = p.1 by omega, h4] at hke
      unfold keyE at hke
      rw [Prod.mk.injEq] at hke
      have := hn2 _ (List.getElem_mem hk) (hke.2.trans hid)
      rw [(near_iff _ _).2 hke.1.symm] at this
      cases this
    · exact ⟨rfl, hb⟩
theorem cnil_set (x : Nat) (o i : Int) (_hx : x < 18446744073709551616) (w : World) : Calls Try.prog 12 #[.pointer none, .int .u64 (x : Int), .int .i64 o, .int .i64 i] w fun e w' => e = .returned (.bool false) ∧ Below w.heap.size w w' := by
  cases hi : idOk i with
  | false => exact cset_none _ w hi
  | true =>
    have MC := Go.Lib.hid (fun W => cmay_c i W)
    rw [hi] at MC
    have PC := Go.Lib.hid (fun W => cplaces_nil x W)
    have HB := Go.Lib.hid (Below.refl w.heap.size w)
    clear hi
    go_enter Try.func12, Try.ntmps12
    go_wp2_with fail
    refine (MC.out _).mono ?_
    rintro e w1 ⟨rfl, rfl⟩
    go_wp2_with fail
    refine (PC.out _).mono ?_
    rintro e w1 ⟨rfl, rfl⟩
    go_wp2_with fail
    go_loop [19] (fun jv => jv = .int .i64 0) (fun _ => 0)
    case atStart => rfl
    case round =>
      obtain rfl := hrel
      go_wp2_with fail
      go_ret
      exact ⟨rfl, HB.out⟩

end Go.Proofs.Ytgbaeipemlcbcaa
