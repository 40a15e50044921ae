/- SortedForm: which pairs may be: in order, each key once, keys and values that may be: for every input the law returns true. -/
import Derived.Test.YtibbligidncocaaRows
import Derived.WalkKit
import Derived.ProofKit
import Derived.OpenShut
import Derived.ShutString
import Derived.ChangeOld
import Derived.Below
import Derived.Test.YtibbligidncocaaM50
import Derived.Test.YtibbligidncocaaM48
import Derived.Test.YtibbligidncocaaM05
import Derived.Test.YtibbligidncocaaM15
import Derived.Deep.DeepCutAuto
namespace Go.Proofs.Ytibbligidncocaa.sortedForm
open Go.ChangeShapes Go.WideShapes Go.ChangeAt Go.RowKit
open Go.ChangeMaps (open_string shut_string)
set_option linter.unusedVariables false

theorem own : ownKnob Try.prog.godebug = none := by kernel_rfl
theorem laidOut : laidOutB Try.prog = true := by kernel_rfl

theorem sliced_zero (a : Option Addr) (n c s : Nat) : sliced a 0 n c s = .slice a n c := by
  unfold sliced
  have e : a.map (fun p : Addr => p.add (0 * s)) = a := by
    cases a with
    | none => rfl
    | some p => simp only [Option.map_some, Nat.zero_mul]; congr 1
  rw [e]
  split <;> rfl
/-- A pair, cut. -/
def ctP (x : RecT) : RecT := cutR (plainR x)
theorem ctP_small (l : List RecT) : SmallV (l.map ctP) := fun x hx => by
  obtain ⟨y, -, rfl⟩ := List.mem_map.1 hx
  constructor
  · show (str _).size ≤ 1000000
    rw [str_size, List.length_take]
    omega
  · show (str _).size ≤ 1000000
    rw [str_size, List.length_take]
    omega
/-- A new block for a record. -/
def NewRec (B : Nat) (w : World) (v : Value) : Prop := ∃ g, B ≤ g ∧ v = .pointer (some ⟨g, 0, none⟩) ∧ w.heap[g]? = some (.cells #[.string ⟨#[]⟩, .bool false, .int .i64 0, .int .i64 0, .string ⟨#[]⟩] 39 (0, 0))
theorem NewRec.below {B : Nat} {w w' : World} {v : Value} (h : NewRec B w v) (hb : Below w.heap.size w w') : NewRec B w' v := by
  obtain ⟨g, h1, h2, h3⟩ := h
  exact ⟨g, h1, h2, row_kept h3 hb⟩
theorem zero_rec (w : World) : (zeroValue 39).run Try.prog w = .ok (.agg #[.string ⟨#[]⟩, .bool false, .int .i64 0, .int .i64 0, .string ⟨#[]⟩]) w := by kernel_rfl
def VF10 (B b os n cap k : Nat) (kx ky sx sy : ByteArray) (ax nx : Int) : Nat → World → Value → Prop
  | 28, _, v => v = .slice (some ⟨b, os, none⟩) n cap
  | 29, _, v => v = .int .i64 (k : Int)
  | 30, _, v => v = .pointer (some ⟨b, os + k * 4, none⟩)
  | 31, _, v => v = .pointer (some ⟨b, os + k * 4, none⟩)
  | 32, _, v => v = .string kx
  | 33, _, v => v = .slice (some ⟨b, os, none⟩) n cap
  | 34, _, v => v = .int .i64 (k : Int)
  | 35, _, v => v = .pointer (some ⟨b, os + k * 4, none⟩)
  | 36, _, v => v = .pointer (some ⟨b, os + k * 4 + 1, none⟩)
  | 37, _, v => v = .agg #[.int .i64 ax, .int .i64 nx, .string sx]
  | 38, _, v => v = .agg #[.string kx, .bool false, .int .i64 ax, .int .i64 nx, .string sx]
  | 39, _, v => v = .agg #[.string ky, .bool false, .int .i64 ax, .int .i64 nx, .string sy]
  | 10, w, v => NewRec B w v
  | _, _, _ => True

theorem VF10_below (B b os n cap k : Nat) (kx ky sx sy : ByteArray) (ax nx : Int) : ∀ (i : Nat) (w w' : World) (v : Value), VF10 B b os n cap k kx ky sx sy ax nx i w v → Below w.heap.size w w' → VF10 B b os n cap k kx ky sx sy ax nx i w' v := by
  intro i w w' v h hb
  unfold VF10 at h ⊢
  split at h <;> first | exact h | trivial | exact h | exact NewRec.below h hb

set_option maxHeartbeats 8000000 in
set_option maxRecDepth 100000 in
theorem walk (w : World) (a0 : Option Addr) (len0 cap0 : Nat) (l0 : List RecT) (w0 : RPairs w (.slice a0 len0 cap0) l0) (a1 : ByteArray) (w1 : a1.size ≤ maxLen) (a2 : ByteArray) (w2 : a2.size ≤ maxLen) :
    Calls Try.prog 4 #[.slice a0 len0 cap0, .string a1, .string a2] w fun e w' => e = .returned (.bool true) ∧ Below w.heap.size w w' := by
  obtain ⟨hL, hok⟩ := w0
  obtain ⟨hl1, hl2, hl3⟩ := hL.len
  subst hl1
  have HL := Go.Lib.hid hL
  have HOK := Go.Lib.hid hok
  have CA := Go.Lib.hid fun W => lcut_c a1 20 W w1 (by omega)
  have CB := Go.Lib.hid fun W => lcut_c a2 20 W w2 (by omega)
  have HSA := Go.Lib.hid (show (str ((bl a1).take 20)).size ≤ 1000000 from by rw [str_size, List.length_take]; omega)
  have HSB := Go.Lib.hid (show (str ((bl a2).take 20)).size ≤ 1000000 from by rw [str_size, List.length_take]; omega)
  clear w1 w2 hL hok
  generalize str ((bl a1).take 20) = ca at *
  generalize str ((bl a2).take 20) = cb at *
  have CLS := Go.Lib.hid fun W => sless_c ca cb _ W HSA.out HSB.out rfl
  have CRL := Go.Lib.hid fun W => rless_c ca cb _ W HSA.out HSB.out rfl
  generalize lessK ca cb = q at *
  go_enter Try.func4, Try.ntmps4
  go_upto_if 19 with (refine (begun22_c _).mono ?_; rintro e w1 ⟨rfl, hbb⟩)
  go_cut [0] (fun s wx => wx = w1 ∧ ∃ S : List RecT, S.length ≤ 20 ∧ K4.R wx s S ∧ Hid (∀ y ∈ S, RecOk y))
  case first =>
    by_cases h20 : 20 < l0.length
    · have hR0 := (HL.out.below hbb).cut K4_ok 0 20 cap0 (by omega) (by omega) (by omega) (Nat.le_refl _)
      rw [sliced_zero] at hR0
      have hR := Go.Lib.hid hR0
      have hlt := Go.Lib.hid (show ((l0.take 20).drop 0).length ≤ 20 by rw [List.drop_zero, List.length_take]; omega)
      have hB2 : Hid (∀ y ∈ (l0.take 20).drop 0, RecOk y) := Go.Lib.hid fun y hy => HOK.out y (List.mem_of_mem_take (List.mem_of_mem_drop hy))
      have Hsl : Hid (∀ W, (Instr.slice 24 (.slice a0 l0.length cap0) none (some (.int .i64 20)) none).run Try.prog W = .ok (.slice a0 20 cap0) W) := Go.Lib.hid fun W => (sliced_zero a0 20 cap0 K4.size) ▸ K4_ok.run_h a0 l0.length cap0 20 (by omega) .i64 W
      go_wp2_with (first
        | (with_reducible show wpList _ _ _ (⟨some 21, _, _, _, _, _⟩ :: _) _ _; go_must (refine wpList_cut_h rfl (.tmp 20) (.const (.int .i64 20)) 24 rfl (by kernel_rfl) a0 l0.length cap0 (.int .i64 20) (.slice a0 20 cap0) rfl rfl Hsl.out ?_))
        | fail)
      go_meet
      exact ⟨rfl, _, hlt.out, hR.out, hB2⟩
    · have hR := Go.Lib.hid (HL.out.below hbb)
      go_wp2_with fail
      go_meet
      exact ⟨rfl, l0, by omega, hR.out, HOK⟩
  case rest =>
    obtain ⟨rfl, S, hS20, hS, HS⟩ := hcut
    clear HL HOK hl2 hl3
    obtain ⟨ad, cap, rfl, -⟩ := hS.form
    have HR := Go.Lib.hid (show ∀ W, Below wc.heap.size wc W → K4.R W (.slice ad S.length cap) S from fun W hb => hS.below hb)
    have HBB := Go.Lib.hid hbb
    clear hS hbb
    go_wp2_with fail
    go_loopw [8, 9] (fun lv kv wr => ∃ (k : Nat) (z : Value), z = lv ∧ k ≤ S.length ∧ kv = .int .i64 (k : Int) ∧ Hid (K4.O wr wc.heap.size z ((S.take k).map ctP)) ∧ Hid (Below wc.heap.size wc wr)) (fun _ kv _ => S.length - (intOf kv).toNat)
    case atStart => exact ⟨0, _, rfl, by omega, rfl, Go.Lib.hid (Lay.O.nil _ _), Go.Lib.hid (Below.refl _ _)⟩
    case round =>
      obtain ⟨k, z, rfl, hk, rfl, HO, HB⟩ := hrel
      by_cases hlt : k < S.length
      · obtain ⟨b, os, rfl, -, hbl, c0, c1, c2, c3⟩ := K4.at' (HR.out _ HB.out) k hlt
        have hix := idx4 b os S.length cap k hlt
        obtain ⟨ok1, -, -, ok4⟩ := HS.out _ (List.getElem_mem hlt)
        have HT := Go.Lib.hid (show (S.take (k + 1)).map ctP = (S.take k).map ctP ++ [ctP S[k]] by rw [List.take_succ_eq_append_getElem hlt, List.map_append]; rfl)
        generalize S[k] = x at *
        obtain ⟨kx, gx, ax, nx, sx⟩ := x
        simp only [] at c0 c1 c2 c3 ok1 ok4
        have CC := fun W => rcut_c kx false ax nx sx W ok1 ok4
        unfold recV at CC
        have HT := Go.Lib.hid (show (S.take (k + 1)).map ctP = (S.take k).map ctP ++ [(str ((bl kx).take 20), false, ax, nx, str ((bl sx).take 30))] from HT.out)
        generalize str ((bl kx).take 20) = ky at *
        generalize str ((bl sx).take 30) = sy at *
        have CC := Go.Lib.hid CC
        have HBR := Go.Lib.hid (build_rec kx ax nx sx)
        have hbp := build_pair ky ax nx sy
        have HCELL := Go.Lib.hid (fun W (hb : Below wr.heap.size wr W) => And.intro (cell_kept c0 hb) (And.intro (cell_kept c1 hb) (And.intro (cell_kept c2 hb) (cell_kept c3 hb))))
        clear c0 c1 c2 c3 ok1 ok4 hbl
        have HZR := Go.Lib.hid zero_rec
        go_upto_region 10 with (fail)
        refine wp_region_head 13 (by decide) (by kernel_rfl) (VF10 wr.heap.size b os S.length cap k kx ky sx sy ax nx) (VF10_below wr.heap.size b os S.length cap k kx ky sx sy ax nx) (by decide +kernel) (by rfl) [28, 29, 30, 31, 32, 33, 34, 35, 36, 37, 38, 39, 10] (by rfl) ?_ ?_
        · intro i o hin ho a w6 hb6 hlen hg
          obtain ⟨d0, d1, d2, d3⟩ := HCELL.out w6 hb6
          match i, hin, ho with
          | 0, hin, ho =>
            obtain rfl := Option.some.inj ho
            have h0 := given_old hg 0 (by decide +kernel)
            clear hg
            exact st_yield ho (wanted_none rfl) (.slice (some ⟨b, os, none⟩) S.length cap) w6 (by simp [execOp, Act.eval, h0, go_sem]) ⟨_, rfl, Below.refl _ _, by rintro t' ⟨⟩; rfl⟩
          | 1, hin, ho =>
            obtain rfl := Option.some.inj ho
            have h9 := given_old hg 9 (by decide +kernel)
            clear hg
            exact st_yield ho (wanted_none rfl) (.int .i64 (k : Int)) w6 (by simp [execOp, Act.eval, h9, go_sem]) ⟨_, rfl, Below.refl _ _, by rintro t' ⟨⟩; rfl⟩
          | 2, hin, ho =>
            obtain rfl := Option.some.inj ho
            obtain ⟨_, h28, rfl⟩ := given_fed hg 28 (by decide +kernel)
            obtain ⟨_, h29, rfl⟩ := given_fed hg 29 (by decide +kernel)
            clear hg
            exact st_yield ho (wanted_none rfl) (.pointer (some ⟨b, os + k * 4, none⟩)) w6 (by simp [execOp, Act.eval, h28, h29, go_sem, hix]) ⟨_, rfl, Below.refl _ _, by rintro t' ⟨⟩; rfl⟩
          | 3, hin, ho =>
            obtain rfl := Option.some.inj ho
            obtain ⟨_, h30, rfl⟩ := given_fed hg 30 (by decide +kernel)
            clear hg
            exact st_yield ho (wanted_none rfl) (.pointer (some ⟨b, os + k * 4, none⟩)) w6 (by simp [execOp, Act.eval, h30, go_sem]) ⟨_, rfl, Below.refl _ _, by rintro t' ⟨⟩; rfl⟩
          | 4, hin, ho =>
            obtain rfl := Option.some.inj ho
            obtain ⟨_, h31, rfl⟩ := given_fed hg 31 (by decide +kernel)
            clear hg
            exact st_yield ho (wanted_none rfl) (.string kx) w6 (by simp [execOp, Act.eval, h31, go_sem, d0]) ⟨_, rfl, Below.refl _ _, by rintro t' ⟨⟩; rfl⟩
          | 5, hin, ho =>
            obtain rfl := Option.some.inj ho
            have h0 := given_old hg 0 (by decide +kernel)
            clear hg
            exact st_yield ho (wanted_none rfl) (.slice (some ⟨b, os, none⟩) S.length cap) w6 (by simp [execOp, Act.eval, h0, go_sem]) ⟨_, rfl, Below.refl _ _, by rintro t' ⟨⟩; rfl⟩
          | 6, hin, ho =>
            obtain rfl := Option.some.inj ho
            have h9 := given_old hg 9 (by decide +kernel)
            clear hg
            exact st_yield ho (wanted_none rfl) (.int .i64 (k : Int)) w6 (by simp [execOp, Act.eval, h9, go_sem]) ⟨_, rfl, Below.refl _ _, by rintro t' ⟨⟩; rfl⟩
          | 7, hin, ho =>
            obtain rfl := Option.some.inj ho
            obtain ⟨_, h33, rfl⟩ := given_fed hg 33 (by decide +kernel)
            obtain ⟨_, h34, rfl⟩ := given_fed hg 34 (by decide +kernel)
            clear hg
            exact st_yield ho (wanted_none rfl) (.pointer (some ⟨b, os + k * 4, none⟩)) w6 (by simp [execOp, Act.eval, h33, h34, go_sem, hix]) ⟨_, rfl, Below.refl _ _, by rintro t' ⟨⟩; rfl⟩
          | 8, hin, ho =>
            obtain rfl := Option.some.inj ho
            obtain ⟨_, h35, rfl⟩ := given_fed hg 35 (by decide +kernel)
            clear hg
            exact st_yield ho (wanted_none rfl) (.pointer (some ⟨b, os + k * 4 + 1, none⟩)) w6 (by simp [execOp, Act.eval, h35, go_sem]) ⟨_, rfl, Below.refl _ _, by rintro t' ⟨⟩; rfl⟩
          | 9, hin, ho =>
            obtain rfl := Option.some.inj ho
            obtain ⟨_, h36, rfl⟩ := given_fed hg 36 (by decide +kernel)
            clear hg
            exact st_yield ho (wanted_none rfl) (.agg #[.int .i64 ax, .int .i64 nx, .string sx]) w6 (by simp [execOp, Act.eval, h36, go_sem, d1, d2, d3]) ⟨_, rfl, Below.refl _ _, by rintro t' ⟨⟩; rfl⟩
          | 10, hin, ho =>
            obtain rfl := Option.some.inj ho
            obtain ⟨_, h32, rfl⟩ := given_fed hg 32 (by decide +kernel)
            obtain ⟨_, h37, rfl⟩ := given_fed hg 37 (by decide +kernel)
            clear hg
            exact st_yield ho (wanted_none rfl) (.agg #[.string kx, .bool false, .int .i64 ax, .int .i64 nx, .string sx]) w6 (by simp [execOp, Act.eval, h32, h37, HBR.out w6]) ⟨_, rfl, Below.refl _ _, by rintro t' ⟨⟩; rfl⟩
          | 11, hin, ho =>
            obtain rfl := Option.some.inj ho
            obtain ⟨_, h38, rfl⟩ := given_fed hg 38 (by decide +kernel)
            clear hg
            exact st_enter (w1 := w6) ho (wanted_none rfl) 17 #[.agg #[.string kx, .bool false, .int .i64 ax, .int .i64 nx, .string sx]] (by simp [execOp, Act.eval, h38, resolve, go_sem]) ((CC.out w6).mono (by rintro e w7 ⟨rfl, hb7⟩; exact ⟨_, rfl, _, rfl, hb7, by rintro t' ⟨⟩; rfl⟩))
          | 12, hin, ho =>
            obtain rfl := Option.some.inj ho
            clear hg
            exact st_yield ho (wanted_none rfl) (.pointer (some ⟨w6.heap.size, 0, none⟩)) (w6.alloc (.cells #[.string ⟨#[]⟩, .bool false, .int .i64 0, .int .i64 0, .string ⟨#[]⟩] 39)) (by simp [execOp, go_sem, HZR.out w6, Result.andThen]) ⟨_, rfl, (Below.refl _ _).alloc (Nat.le_refl _) _, by rintro t' ⟨⟩; exact ⟨w6.heap.size, hb6.size, rfl, heap_alloc_new w6 _⟩⟩
          | n + 13, hin, ho => omega
        · intro f w6 hb6 hv
          have h39 := hv 39 (by decide)
          have h10 := hv 10 (by decide)
          simp only [VF10] at h39 h10
          obtain ⟨g7, hgB, e10, hgz⟩ := h10
          have HGZ := Go.Lib.hid hgz
          have hcA := setRow_below (w0 := wr) #[.string ky, .bool false, .int .i64 ax, .int .i64 nx, .string sy] hb6 hgB
          have HX := Go.Lib.hid (setRow_heap w6 g7 _ #[.string ky, .bool false, .int .i64 ax, .int .i64 nx, .string sy] 39 (0, 0) hgz)
          have HO7 := Go.Lib.hid (HO.out.below hcA)
          have HB7 := Go.Lib.hid (HB.out.trans (hcA.mono HB.out.size))
          clear hv hb6 hcA HCELL CC HBR HO HB hix hgz hgB HZR
          unfold putAll
          simp only [List.foldl, List.drop]
          simp only [h39, e10]
          clear h39 e10
          go_simp
          go_upto_region 11 with (first
            | (with_reducible show wpList _ _ _ (⟨none, Op.store 39 (.tmp 10) (.tmp 39), _, _, _, _⟩ :: _) _ _; go_loud (refine wpList_store_row rfl 39 (.tmp 10) (.tmp 39) rfl g7 #[.string ky, .bool false, .int .i64 ax, .int .i64 nx, .string sy] rfl rfl 39 _ HGZ.out (by kernel_rfl) rfl (rec_cells_one ..) ?_))
            | fail)
          clear HGZ
          generalize w6.setRow g7 #[.string ky, .bool false, .int .i64 ax, .int .i64 nx, .string sy] = w7 at *
          obtain ⟨y0, y1, y2, y3, y4⟩ := row5 HX.out
          have hbB := below_one w7 (.cells #[.string ky, .int .i64 ax, .int .i64 nx, .string sy] 42)
          have HON := Go.Lib.hid (K4.one1 w7 (ky, false, ax, nx, sy))
          simp only [] at HON
          have HO8 := Go.Lib.hid (HO7.out.below hbB)
          have HB8 := Go.Lib.hid (HB7.out.trans (hbB.mono HB7.out.size))
          have HLN := Go.Lib.hid (show ((S.take k).map ctP).length + [((ky, false, ax, nx, sy) : RecT)].length ≤ 1000000 by simp; omega)
          clear hbB HO7 HB7 HX
          go_wp2_with (first
            | (with_reducible show wpList _ _ _ (⟨some 47, _, _, _, _, _⟩ :: _) _ _; go_loud (refine K4_ok.append rfl (.tmp 40) (.tmp 46) rfl wc.heap.size z (.slice (some ⟨w7.heap.size, 0, none⟩) 1 1) ((S.take k).map ctP) [(ky, false, ax, nx, sy)] rfl rfl HO8.out HON.out HLN.out HB8.out.size ?_); intro v9 w9 ho9 hg9)
            | fail)
          have HO9 := Go.Lib.hid (show K4.O w9 wc.heap.size v9 ((S.take (k + 1)).map ctP) by rw [HT.out]; exact ho9)
          have HB9 := Go.Lib.hid (HB8.out.grown hg9 HB8.out.size (fun j hj => HO8.out.row j hj))
          clear ho9 hg9
          go_wp2_with fail
          exact ⟨⟨k + 1, _, rfl, by omega, by go_num, HO9, HB9⟩, by simp only [intOf]; omega⟩
      · obtain rfl : k = S.length := by omega
        rw [List.take_length] at HO
        have hml : (S.map ctP).length ≤ 20 := by rw [List.length_map]; exact hS20
        have hsm := ctP_small S
        have CN := Go.Lib.hid fun W (h : K4.R W z (S.map ctP)) => snew_c z (S.map ctP) W h hsm (by omega)
        have CMY := Go.Lib.hid fun W (h : K4.R W z (S.map ctP)) => rmayp_c z (S.map ctP) _ W h hsm (by omega) rfl
        have HBw := Go.Lib.hid (HBB.out.trans (HB.out.mono HBB.out.size))
        clear hml hsm HB HBB HR HS hS20
        have HM := Go.Lib.hid HO.out.r
        generalize S.map ctP = M at *
        clear HO
        go_wp2_with fail
        refine (CA.out _).mono ?_
        rintro e w2 ⟨rfl, rfl⟩
        go_wp2_with fail
        refine (CB.out _).mono ?_
        rintro e w2 ⟨rfl, rfl⟩
        go_wp2_with fail
        refine (CN.out _ HM.out).mono ?_
        rintro e w3 ⟨hc, hq⟩
        have HM := Go.Lib.hid (HM.out.below hc)
        have HBw := Go.Lib.hid (HBw.out.trans (hc.mono HBw.out.size))
        have hqq : (q == q) = true := by simp
        rcases hq with ⟨hm, p, rfl, -⟩ | ⟨hm, rfl⟩
        · rw [hm] at CMY
          clear hm hc CN CA CB
          go_wp2_with fail
          refine (CMY.out _ HM.out).mono ?_
          rintro e w4 ⟨rfl, hc⟩
          have HBw := Go.Lib.hid (HBw.out.trans (hc.mono HBw.out.size))
          clear hc CMY HM
          go_wp2_with fail
          refine (CLS.out _).mono ?_
          rintro e w5 ⟨rfl, hc⟩
          have HBw := Go.Lib.hid (HBw.out.trans (hc.mono HBw.out.size))
          clear hc CLS
          go_wp2_with fail
          refine (CRL.out _).mono ?_
          rintro e w6 ⟨rfl, hc⟩
          have HBw := Go.Lib.hid (HBw.out.trans (hc.mono HBw.out.size))
          clear hc CRL
          go_wp2_with fail
          go_ret
          exact ⟨rfl, HBw.out⟩
        · rw [hm] at CMY
          clear hm hc CN CA CB
          go_wp2_with fail
          refine (CMY.out _ HM.out).mono ?_
          rintro e w4 ⟨rfl, hc⟩
          have HBw := Go.Lib.hid (HBw.out.trans (hc.mono HBw.out.size))
          clear hc CMY HM
          go_wp2_with fail
          refine (CLS.out _).mono ?_
          rintro e w5 ⟨rfl, hc⟩
          have HBw := Go.Lib.hid (HBw.out.trans (hc.mono HBw.out.size))
          clear hc CLS
          go_wp2_with fail
          refine (CRL.out _).mono ?_
          rintro e w6 ⟨rfl, hc⟩
          have HBw := Go.Lib.hid (HBw.out.trans (hc.mono HBw.out.size))
          clear hc CRL
          go_wp2_with fail
          go_ret
          exact ⟨rfl, HBw.out⟩

/-! ### THE ROW -/
set_option maxRecDepth 100000 in
theorem lifted (os : Os) (started : os.Started) (H : Type) (enc : TypeId × Value → H) :
    ReturnsInHanded {} Try.checked os 4 .any (Rows.sortedFormSpec.pre6 enc Try.prog Try.f4 Rows.sortedFormRow.domain false) (Rows.sortedFormSpec.post enc Try.prog Try.f4 false true false false) := by
  refine returnsInHanded_of_change (C := Try.checked) own started (by kernel_rfl) Try.func4
    (ChangeSpec.witness6 (enc := enc) (C := Try.checked) false ⟨#[], #[.slice none 0 0, .string ByteArray.empty, .string ByteArray.empty], []⟩ 8 (by kernel_rfl) (by kernel_rfl) (by kernel_rfl) (by kernel_rfl)) ?_
  intro W base args ds gs before hval0 hW hcnd _
  have hval : ∀ (j : Nat) t v, Try.f4.params[j]? = some t → args[j]? = some v → Value.okWide Try.prog W .any base t v := hval0
  have hW' := hW
  obtain ⟨p, q, hA0, hV, rfl, hfz, hnd⟩ := hW
  have hA : DataW.TrodAll enc Try.prog W 0 (fun _ => true) true Try.f4.params.toList args.toList ds p := hA0
  rw [Try.params4] at hA hval
  obtain ⟨v0, vs0, d0, ds0, p0, q0, hargs, rfl, rfl, h0, r0⟩ := trodAll_cons hA
  obtain ⟨v1, vs1, d1, ds1, p1, q1, rfl, rfl, rfl, h1, r1⟩ := trodAll_cons r0
  obtain ⟨v2, vs2, d2, ds2, p2, q2, rfl, rfl, rfl, h2, r2⟩ := trodAll_cons r1
  obtain ⟨rfl, rfl, rfl⟩ := trodAll_nil r2
  obtain rfl : args = #[v0, v1, v2] := by cases args; simp_all
  obtain ⟨rfl, rfl⟩ := trodVars_none hV
  have kk0 := h0
  have lt0 : ∀ x ∈ p0, x.block < W.heap.size := by obtain ⟨m, hm⟩ := kk0; exact DataW.trod_lt m _ _ _ hm
  have kk1 := h1
  have lt1 : ∀ x ∈ p1, x.block < W.heap.size := by obtain ⟨m, hm⟩ := kk1; exact DataW.trod_lt m _ _ _ hm
  have kk2 := h2
  have lt2 : ∀ x ∈ p2, x.block < W.heap.size := by obtain ⟨m, hm⟩ := kk2; exact DataW.trod_lt m _ _ _ hm
  obtain ⟨a0, len0, cap0, rfl⟩ := okWide_slice Try.underlying24 (hval 0 24 v0 rfl rfl)
  obtain ⟨l0, w0⟩ := open_pairs h0
  obtain ⟨a1, rfl, rfl, rfl, w1⟩ := open_string Try.underlying9 (hval 1 9 v1 rfl rfl) h1
  obtain ⟨a2, rfl, rfl, rfl, w2⟩ := open_string Try.underlying9 (hval 2 9 v2 rfl rfl) h2
  clear hA0 hval0
  refine (walk W a0 len0 cap0 l0 w0 a1 w1 a2 w2).mono fun e W' ⟨he, bel⟩ => ?_
  subst he
  exact ⟨_, rfl, _, _, _, [], _, [], hW', trodAll_mk1 (shut_bool Try.underlying4 _), (trodAll_cons_mk (Below.trod laidOut (by kernel_rfl) (of_decide_eq_true (by kernel_rfl)) kk0 bel lt0) (trodAll_cons_mk (Below.trod laidOut (by kernel_rfl) (of_decide_eq_true (by kernel_rfl)) kk1 bel lt1) (trodAll_cons_mk (Below.trod laidOut (by kernel_rfl) (of_decide_eq_true (by kernel_rfl)) kk2 bel lt2) trodAll_mk0))), rfl, bel.frame _, fun h => by cases h⟩

theorem over : Rows.sortedFormRow.holds Try.pinned (OpenSpec.ofChange Rows.sortedFormSpec) :=
  OpenClaim.holds_of_wide 4 Try.f4 rfl rfl rfl rfl rfl rfl rfl ⟨rfl, rfl, rfl, rfl, rfl⟩ rfl rfl rfl rfl rfl (by kernel_rfl) Try.func4 (by kernel_rfl)
    (of_decide_eq_true (by kernel_rfl)) (by unfold Func.isWrapper; first | (rw [if_pos (by decide +kernel)]; kernel_rfl) | (rw [if_neg (by decide +kernel)]; exact ⟨rfl, rfl⟩))
    (fun os started H enc _ => lifted os started H enc)

theorem proved : Rows.SortedFormSaid := over
#print axioms proved
end Go.Proofs.Ytibbligidncocaa.sortedForm
