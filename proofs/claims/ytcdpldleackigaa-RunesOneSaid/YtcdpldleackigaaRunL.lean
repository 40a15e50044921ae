/-
  The contracts once more, at texts that are given as lists of bytes; what the laws need of the runes.
-/
import Derived.Test.YtcdpldleackigaaBegun3
namespace Go.Proofs.Ytcdpldleackigaa
open Go.RowKit

theorem str_append (a b : List UInt8) : str a ++ str b = str (a ++ b) := by
  apply ByteArray.ext; apply Array.toList_inj.1
  simp [str]

theorem count_s (l : List UInt8) (w : World) (hm : l.length ≤ 1000000) :
    Calls Try.prog 13 #[.string (str l)] w fun e w' => e = .returned (.int .i64 ((toks l).length : Int)) ∧ Below w.heap.size w w' := by
  have := count_c (str l) w (by rw [str_size]; omega)
  rwa [bl_str] at this
theorem valid_s (l : List UInt8) (w : World) (hm : l.length ≤ 1000000) :
    Calls Try.prog 14 #[.string (str l)] w fun e w' => e = .returned (.bool (wellB (toks l))) ∧ Below w.heap.size w w' := by
  have := valid_c (str l) w (by rw [str_size]; omega)
  rwa [bl_str] at this
theorem rvalid_s (l : List UInt8) (w : World) (hm : l.length ≤ 1000000) :
    Calls Try.prog 15 #[.string (str l)] w fun e w' => e = .returned (.bool (wellB (toks l))) ∧ w = w' := by
  have := rvalid_c (str l) w (by rw [str_size]; omega)
  rwa [bl_str] at this
theorem of_s (l : List UInt8) (w : World) (hm : l.length ≤ 1000000) :
    Calls Try.prog 12 #[.string (str l)] w fun e w' => ∃ v, e = .returned v ∧ OwnV 21 w' w.heap.size v (zi .i32 (runesOf (toks l))) ∧ Below w.heap.size w w' := by
  have := of_c (str l) w (by rw [str_size]; omega)
  rwa [bl_str] at this
theorem rrunes_s (l : List UInt8) (w : World) (hm : l.length ≤ 1000000) :
    Calls Try.prog 11 #[.string (str l)] w fun e w' => ∃ v1 v2, e = .returned (.tuple #[v1, v2]) ∧ OwnV 21 w' w.heap.size v1 (zi .i32 (runesOf (toks l))) ∧ OwnV 3 w' w.heap.size v2 (zi .i64 (posl l)) ∧ Below w.heap.size w w' := by
  have := rrunes_c (str l) w (by rw [str_size]; omega)
  rwa [bl_str] at this
theorem at_s (l : List UInt8) (n : Int) (w : World) (hm : l.length ≤ 1000000) :
    Calls Try.prog 16 #[.string (str l), .int .i64 n] w fun e w' => e = .returned (atv l n) ∧ Below w.heap.size w w' := by
  have := at_c (str l) n w (by rw [str_size]; omega)
  rwa [bl_str] at this
theorem cut_s (l : List UInt8) (n : Int) (w : World) (hm : l.length ≤ 1000000) :
    Calls Try.prog 17 #[.string (str l), .int .i64 n] w fun e w' => e = .returned (.string (str (cutl l n))) ∧ Below w.heap.size w w' := by
  have := rcut_c (str l) n w (by rw [str_size]; omega)
  rwa [bl_str] at this

theorem well_append (a b : List (Nat × List UInt8)) : wellB (a ++ b) = (wellB a && wellB b) := by
  unfold wellB
  rw [List.all_append]

theorem cutl_join (a b : List UInt8) (h : wellB (toks a) = true) : cutl (a ++ b) ((toks a).length : Int) = a := by
  unfold cutl
  rw [if_neg (by omega), take_pos, toks_append a b h, Int.toNat_natCast, List.take_left, bytesOf_toks]

theorem runes_valid (l : List UInt8) : ∀ r ∈ runesOf (toks l), Utf8.valid (r : Int) = true := by
  intro r hr
  obtain ⟨t, ht, rfl⟩ := List.mem_map.1 hr
  exact (toks_good l t ht).1

theorem flat_len (rs : List Nat) (h : ∀ r ∈ rs, Utf8.valid (r : Int) = true) : (rs.flatMap enc).length ≤ 4 * rs.length := by
  induction rs with
  | nil => simp
  | cons r rs ih =>
    have h1 := ih fun r hr => h r (List.mem_cons_of_mem _ hr)
    have h2 := enc_len r (h r (List.mem_cons_self ..))
    rw [List.flatMap_cons, List.length_append, List.length_cons]
    omega

theorem encode_str (r : Nat) : Utf8.encode (r : Int) = str (enc r) := by
  unfold enc
  rw [str_bl]

theorem text_beq (a b : List UInt8) : ((str a).toList == (str b).toList) = (a == b) := by
  rw [ByteArray.toList_eq, ByteArray.toList_eq]
  have e (l : List UInt8) : (str l).data.toList = l := by simp [str]
  rw [e, e]

theorem written_eq (l : List UInt8) : ((runesOf (toks l)).flatMap enc == l) = wellB (toks l) := by
  rw [Bool.eq_iff_iff, beq_iff_eq]
  exact written_iff l

theorem cutl_nat (l : List UInt8) (n : Int) (h : 0 ≤ n) : cutl l n = bytesOf ((toks l).take n.toNat) := by
  unfold cutl
  rw [if_neg (by omega), take_pos]

theorem toks_cutl (l : List UInt8) (n : Int) (h : 0 ≤ n) : toks (cutl l n) = (toks l).take n.toNat := by
  rw [cutl_nat l n h, toks_take]

theorem cutl_cutl (l : List UInt8) (n m : Int) (hn : 0 ≤ n) (hm : 0 ≤ m) : cutl (cutl l n) m = cutl l (min n m) := by
  rw [cutl_nat _ m hm, toks_cutl l n hn, cutl_nat l _ (by omega), List.take_take]
  congr 2
  omega

theorem cutl_length (l : List UInt8) (n : Int) : (cutl l n).length ≤ l.length := by
  unfold cutl
  split
  · simp
  · exact List.length_take_le' _ _

theorem take_cutl (l : List UInt8) (n : Int) : l.take (cutl l n).length = cutl l n := by
  unfold cutl
  split
  · simp
  · rw [List.length_take, Nat.min_eq_left (posOf_le _ _)]

theorem drop_cutl (l : List UInt8) (n : Int) (h : 0 ≤ n) : toks (l.drop (cutl l n).length) = (toks l).drop n.toNat := by
  have e : (cutl l n).length = posOf l n.toNat := by
    unfold cutl
    rw [if_neg (by omega), List.length_take, Nat.min_eq_left (posOf_le _ _)]
  rw [e, toks_drop_pos]

/-- What 'string(r)' writes. -/
def wantN (r : Int) : Nat := if Utf8.valid r then r.toNat else 65533

theorem validZ (r : Int) : Utf8.valid r = true ↔ (0 ≤ r ∧ r < 55296) ∨ (57344 ≤ r ∧ r ≤ 1114111) := by
  unfold Utf8.valid
  rw [Bool.or_eq_true, Bool.and_eq_true, Bool.and_eq_true, decide_eq_true_eq, decide_eq_true_eq, decide_eq_true_eq, decide_eq_true_eq]

theorem want_valid (r : Int) : Utf8.valid (wantN r : Int) = true := by
  unfold wantN
  split
  · rename_i h
    have := (validZ r).1 h
    rw [validZ]
    omega
  · rw [validZ]; omega

theorem encode_none (r : Int) (h : ¬ Utf8.valid r = true) : Utf8.encode r = Utf8.encode ((65533 : Nat) : Int) := by
  have hv : Utf8.valid ((65533 : Nat) : Int) = true := (validZ _).2 (by omega)
  unfold Utf8.encode
  simp only [h, hv, if_true, Bool.false_eq_true, if_false]
  rfl

theorem encode_int (r : Int) : Utf8.encode r = str (enc (wantN r)) := by
  unfold wantN
  by_cases h : Utf8.valid r = true
  · rw [if_pos h, ← encode_str]
    have := (validZ r).1 h
    rw [Int.toNat_of_nonneg (by omega)]
  · rw [if_neg h, ← encode_str]
    exact encode_none r h

theorem toks_rep (n W : Nat) (hv : Utf8.valid (W : Int) = true) : toks ((List.replicate n W).flatMap enc) = List.replicate n (W, enc W) := by
  rw [toks_written _ (fun r hr => by rw [List.eq_of_mem_replicate hr]; exact hv), List.map_replicate]

theorem bytes_rep (n : Nat) (t : Nat × List UInt8) : (bytesOf (List.replicate n t)).length = n * t.2.length := by
  induction n with
  | zero => simp [bytesOf]
  | succ n ih =>
    rw [List.replicate_succ]
    show (t.2 ++ bytesOf (List.replicate n t)).length = _
    rw [List.length_append, ih, Nat.add_mul, Nat.one_mul, Nat.add_comm]

theorem at_rep (n W i : Nat) (hv : Utf8.valid (W : Int) = true) (hi : i < n) : atv ((List.replicate n W).flatMap enc) i = dv W (i * (enc W).length) true := by
  have ht := toks_rep n W hv
  generalize (List.replicate n W).flatMap enc = S at ht
  have hl : i < (toks S).length := by rw [ht, List.length_replicate]; exact hi
  rw [atv_some S i hl]
  have hp : posOf S i = i * (enc W).length := by
    unfold posOf
    rw [ht, List.take_replicate, Nat.min_eq_left (by omega), bytes_rep]
  have hg := congrArg Prod.fst (get_toks S i hl)
  simp only at hg
  rw [← hg, hp]
  have : (toks S)[i] = (W, enc W) := by
    have e := List.getElem_of_eq ht hl
    rw [e, List.getElem_replicate]
  rw [this]

/-- 'x[q]', in whatever world. -/
theorem run_idx {P : Program} (t e : TypeId) (z : Value) (bytes : Nat) (ht : P.underlying t = some (.slice e)) (hinfo : (P.info? e).map (fun i => (i.zero, i.size, i.bytes)) = some (some z, 1, bytes)) (b o n c q : Nat) (hq : q < n) (W : World) :
    (Instr.indexAt t (.slice (some ⟨b, o, none⟩) n c) (.int .i64 (q : Int))).run P W = .ok (.pointer (some ⟨b, o + q, none⟩)) W := by
  obtain ⟨i, hi, -, hsize, -⟩ := info_parts hinfo
  have he : P.elem t = e := by simp [Program.elem, ht]
  have hs : (sizeOf e).run P W = .ok 1 W := by simp [sizeOf, typeInfo, hi, hsize]
  have hadd : (⟨b, o, none⟩ : Addr).add q = ⟨b, o + q, none⟩ := by unfold Addr.add; split <;> simp_all
  rw [run_indexAt_slice W t _ _ _ _ _ (by rw [he]; exact ht), if_pos ⟨by omega, by omega⟩, he, hs]
  simp [Result.andThen, hadd]

end Go.Proofs.Ytcdpldleackigaa
