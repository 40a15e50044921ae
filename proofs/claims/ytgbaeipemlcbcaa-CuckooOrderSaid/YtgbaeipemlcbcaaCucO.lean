/-
  Mathematics of CuckooOrder: in whatever order they come.
-/
import Derived.Test.YtgbaeipemlcbcaaCucF
namespace Go.Proofs.Ytgbaeipemlcbcaa

theorem room_sub {a b : List Nat} (h : a.Sublist b) (g : roomB b = true) : roomB a = true := by
  unfold roomB cntN at *
  rw [List.all_eq_true] at *
  intro S hS
  have h1 := g S hS
  have h2 := h.countP_le (p := inS S)
  rw [decide_eq_true_eq] at *
  omega
/-- What has been laid of those that came; did all find a place? -/
def GoodI (es : List EnT) (gs : List Nat) (o : Bool) : Prop := (o = true → es.map Prod.fst = gs) ∧ (o = false → roomB gs = false) ∧ (es.map Prod.fst).Sublist gs
theorem GoodI.nil : GoodI [] [] true := ⟨fun _ => rfl, fun h => Bool.noConfusion h, List.Sublist.refl _⟩
theorem GoodI.yes {es : List EnT} {gs : List Nat} {o : Bool} (h : GoodI es gs o) (x : Nat) (i : Int) : GoodI (es ++ [(x, i)]) (gs ++ [x]) o := by
  obtain ⟨h1, h2, h3⟩ := h
  refine ⟨fun e => ?_, fun e => ?_, ?_⟩
  · rw [List.map_append, h1 e]; rfl
  · have := h2 e
    cases hr : roomB (gs ++ [x]) with
    | false => rfl
    | true => rw [room_prefix hr] at this; cases this
  · rw [List.map_append]; exact h3.append (List.Sublist.refl _)
theorem GoodI.no {es : List EnT} {gs : List Nat} {o : Bool} (h : GoodI es gs o) {x : Nat} (hr : roomB (es.map Prod.fst ++ [x]) = false) : GoodI es (gs ++ [x]) false := by
  obtain ⟨h1, h2, h3⟩ := h
  refine ⟨fun e => Bool.noConfusion e, fun _ => ?_, h3.trans (List.sublist_append_left _ _)⟩
  cases hg : roomB (gs ++ [x]) with
  | false => rfl
  | true => rw [room_sub (h3.append (List.Sublist.refl _)) hg] at hr; cases hr
theorem GoodI.end {es : List EnT} {gs : List Nat} {o : Bool} {T : SlT} (h : GoodI es gs o) (hf : Fits T es) : o = roomB gs := by
  obtain ⟨h1, h2, -⟩ := h
  cases o with
  | true => rw [← h1 rfl, room_of_fits hf]
  | false => rw [h2 rfl]

/-- The order turned. -/
def kI (n t i : Nat) : Nat := (n - 1 - i + t % n) % n
theorem kI_lt {n : Nat} (t i : Nat) (hn : 0 < n) : kI n t i < n := Nat.mod_lt _ hn
theorem kI_list {n : Nat} (t : Nat) (hn : 0 < n) : (List.range n).map (kI n t) = (List.range (t % n)).reverse ++ ((List.range (n - t % n)).map fun k => t % n + k).reverse := by
  have hs : t % n < n := Nat.mod_lt _ hn
  generalize hse : t % n = s at *
  apply List.ext_getElem
  · simp; omega
  · intro i h1 h2
    have hi : i < n := by simpa using h1
    rw [List.getElem_map, List.getElem_range]
    unfold kI
    rw [hse]
    by_cases his : i < s
    · rw [List.getElem_append_left (by simpa using his), List.getElem_reverse, List.getElem_range]
      rw [List.length_range, show n - 1 - i + s = (s - 1 - i) + n by omega, Nat.add_mod_right, Nat.mod_eq_of_lt (by omega)]
    · rw [List.getElem_append_right (by simp; omega), List.getElem_reverse, List.getElem_map, List.getElem_range]
      simp only [List.length_reverse, List.length_range, List.length_map]
      rw [Nat.mod_eq_of_lt (by omega)]
      omega
theorem kI_perm {n : Nat} (t : Nat) (hn : 0 < n) : ((List.range n).map (kI n t)).Perm (List.range n) := by
  rw [kI_list t hn]
  have hs : t % n < n := Nat.mod_lt _ hn
  have e : List.range n = List.range (t % n) ++ (List.range (n - t % n)).map fun k => t % n + k := by
    conv => lhs; rw [show n = t % n + (n - t % n) by omega, List.range_add]
  rw [e]
  exact (List.reverse_perm _).append (List.reverse_perm _)
def gB (L : List Nat) (t j : Nat) : List Nat := (List.range j).map fun i => L.getD (kI L.length t i) 0
theorem gB_succ (L : List Nat) (t j : Nat) : gB L t (j + 1) = gB L t j ++ [L.getD (kI L.length t j) 0] := by unfold gB; rw [List.range_succ, List.map_append]; rfl
theorem gB_perm {L : List Nat} (t : Nat) (hn : 0 < L.length) : (gB L t L.length).Perm L := by
  unfold gB
  have h := (kI_perm t hn).map fun i => L.getD i 0
  rw [List.map_map] at h
  have e : (List.range L.length).map (fun i => L.getD i 0) = L := by
    apply List.ext_getElem
    · simp
    · intro i h1 h2
      rw [List.getElem_map, List.getElem_range, List.getD_eq_getElem?_getD, List.getElem?_eq_getElem h2]
      rfl
  rw [e] at h
  exact h

end Go.Proofs.Ytgbaeipemlcbcaa
