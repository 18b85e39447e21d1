
/-
  The walk of the law RanksRuns.
-/
import Derived.Test.YtccjegnflienhaaRankF
import Derived.Test.YtccjegnflienhaaRankJ
import Derived.Test.YtccjegnflienhaaCurveB
import Derived.OwnWalk
namespace Go.Proofs.Ytccjegnflienhaa
set_option linter.all false
open Go.RowKit Go.Shelf Go.Lib

set_option maxHeartbeats 800000 in
theorem taskSame (A B : Option Addr) (l : List Tk) (n m c d : Nat) (w : World) (h : Tas w A l) (h' : Tas w B l) (hn : n = l.length) (hm : m = l.length) :
    Calls Try.prog 18 #[.slice A n c, .slice B m d] w fun e w' => e = .returned (.bool true) ∧ ∃ n, w' = w.drewN n := by
  subst hn hm
  have hl := h.le
  go_enter Try.func18, Try.ntmps18
  go_wp2
  go_loopw [13] (fun i wr => ∃ k nd : Nat, k ≤ l.length ∧ i = .int .i64 k ∧ wr = w.drewN nd) (fun i _ => l.length - (intOf i).toNat)
  case atStart => exact ⟨0, 0, Nat.zero_le _, rfl, rfl⟩
  case round =>
    obtain ⟨k, nd, hk, rfl, rfl⟩ := hrel
    by_cases hlt : k < l.length
    · obtain ⟨b1, o1, s, hA, _, c0, c1, c2, HS⟩ := h.get hlt
      obtain ⟨b2, o2, s', hB, _, d0, d1, d2, HS'⟩ := h'.get hlt
      subst hA hB
      obtain rfl : s' = s := Option.some.inj (HS'.out.symm.trans HS.out)
      have i1 : (k : Int) < (l.length : Int) := by omega
      go_wp2
      go_quiet (fail)
      go_wp2
      go_roundw
      case rel => exact ⟨k + 1, nd + nq, by omega, by go_num, by simp [World.drewN, Nat.add_assoc]⟩
      case measure => simp [intOf]; omega
    · go_wp2
      go_ret
      exact ⟨rfl, nd, rfl⟩

theorem ordI_len (l : List Tk) (d k : Nat) : (ordI l d k).length ≤ k := by
  have := List.length_filter_le (fun i => decide ((tk l i).due = (d : Int))) (List.range k)
  unfold ordI
  simpa using this
theorem ordX_len (l : List Tk) (h5 : l.length ≤ 5) : ∀ d, (ordX l d).length ≤ 5 * d
  | 0 => Nat.le_refl _
  | d + 1 => by
    have a := ordX_len l h5 d
    have b := ordI_len l d l.length
    rw [ordX, List.length_append]
    omega
/-- Made so far: all dues below d, and of due d the first k. -/
def ordM (l : List Tk) (d k : Nat) : List Tk := (ordX l d ++ ordI l d k).map (tk l)
theorem ordM_zero (l : List Tk) (d : Nat) : ordM l d 0 = (ordX l d).map (tk l) := by simp [ordM, ordI]
theorem ordM_all (l : List Tk) (d : Nat) : ordM l d l.length = ordM l (d + 1) 0 := by rw [ordM_zero]; rfl
theorem ordM_yes {l : List Tk} {d k : Nat} (h : (tk l k).due = (d : Int)) : ordM l d (k + 1) = ordM l d k ++ [tk l k] := by
  unfold ordM; rw [ordI_next, if_pos h]; simp
theorem ordM_no {l : List Tk} {d k : Nat} (h : ¬ (tk l k).due = (d : Int)) : ordM l d (k + 1) = ordM l d k := by
  unfold ordM; rw [ordI_next, if_neg h]; simp
theorem ordM_len (l : List Tk) (h5 : l.length ≤ 5) {d k : Nat} (hd : d ≤ 61) (hk : k ≤ l.length) : (ordM l d k).length ≤ 310 := by
  have a := ordX_len l h5 d
  have b := ordI_len l d k
  unfold ordM
  rw [List.length_map, List.length_append]
  omega
theorem ord_readR {l : List Tk} {w w' : World} {v : Value} (h : OrdT l w v w') : ∃ f B c, InsA (tjs l) f l.length ∧ v = .slice B l.length c ∧ Tas w' B (srtT l f) ∧ Below w.heap.size w w' := by
  obtain ⟨f, B, c, hf, hv, o, b⟩ := h
  exact ⟨f, B, c, hf, hv, Tas.of_row (base := w.heap.size) (t := 30) (c := c) (by rw [length_srt]; exact o), b⟩
theorem row_formT {w : World} {base n size : Nat} {e : TypeId} {v : Value} {xs : List Value} (h : w.ownsRow base e size v n xs) : ∃ A c, v = .slice A n c := by
  rcases h.2 with ⟨rfl, h0⟩ | ⟨g, cap, cur, rfl, _⟩
  · exact ⟨none, 0, by rw [h0]⟩
  · exact ⟨_, _, rfl⟩
set_option maxRecDepth 100000 in
set_option maxHeartbeats 6400000 in
theorem walk_RanksRuns (a0 : Option Addr) (c0 : Nat) (l0 : List Tk) (n1 : Int) (w : World) (h0 : Tas w a0 l0) (k0 : l0.length ≤ c0) (_h1 : (Lit.int .i64 n1).wf = true) :
    Calls Try.prog 4 #[.slice a0 l0.length c0, .int .i64 n1] w fun e w' => e = .returned (.bool true) ∧ Below w.heap.size w w' := by
  have hb := Below.refl w.heap.size w
  have hl := h0.le
  obtain ⟨i0, hi0, hz0, hz1, hz2⟩ := info_parts tpk_info
  go_enter Try.func4, Try.ntmps4
  by_cases hE : tasE l0 = 0
  · have v := tas_iff.1 hE
    have HE := Lib.hid hE
    have hle := v.le
    clear hE
    go_wp2_with fail
    refine (order_yes a0 l0 c0 _ h0 HE.out).mono ?_
    rintro e w2 ⟨u, rfl, hu⟩
    obtain ⟨f, B, c, hf, rfl, hx, b2⟩ := ord_readR hu
    replace h0 := h0.below b2
    replace hb := below_trans hb b2
    have HO : Hid ((ordX l0 61).map (tk l0) = srtT l0 f) := Lib.hid (srt_ord v hf).symm
    have HL : Hid (l0.length = (srtT l0 f).length) := Lib.hid (length_srt _ _).symm
    clear hu hf b2
    by_cases hH : n1 < 0 ∨ 200 < n1
    · go_wp2_with fail
      refine (rrun_arg a0 l0 c0 n1 _ h0 HE.out hH).mono ?_
      rintro e w3 ⟨rfl, b3⟩
      replace h0 := h0.below b3
      replace hb := below_trans hb b3
      replace hx := hx.below b3
      clear b3
      go_wp2_with fail
      refine (refTasks_any a0 l0 c0 _ h0).mono ?_
      rintro e wb ⟨rfl, b4⟩
      replace h0 := h0.below b4
      replace hb := below_trans hb b4
      replace hx := hx.below b4
      clear b4
      rw [HE.out]
      have HH := Lib.hid hH
      clear hH
      obtain ⟨B0, hB0⟩ : ∃ B0, B0 = wb.heap.size := ⟨_, rfl⟩
      have HB0 := Lib.hid hB0
      go_wp2
      go_loopw [10, 47] (fun v s wr => ∃ d : Nat, d ≤ 61 ∧ s = .int .i64 d ∧ wr.ownsRow B0 30 3 v (ordM l0 d 0).length (qcs (ordM l0 d 0)) ∧ Below B0 wb wr) (fun _ s _ => 61 - (intOf s).toNat)
      case atStart => exact ⟨0, by omega, rfl, World.ownsRow_nil _ _ _ _, by rw [hB0]; exact Below.refl _ _⟩
      clear hB0
      obtain ⟨d, hd, rfl, own, hbB⟩ := hrel
      by_cases hd61 : d < 61
      case pos =>
        have j1 : (d : Int) < 61 := by omega
        go_wp2
        go_loopw [10, 52] (fun v s wr => ∃ k : Nat, k ≤ l0.length ∧ s = .int .i64 k ∧ wr.ownsRow B0 30 3 v (ordM l0 d k).length (qcs (ordM l0 d k)) ∧ Below B0 wb wr) (fun _ s _ => l0.length - (intOf s).toNat)
        case atStart => exact ⟨0, Nat.zero_le _, rfl, own, hbB⟩
        clear own hbB
        obtain ⟨k, hk, rfl, own, hbB⟩ := hrel
        have hbW : Below wb.heap.size wb wr := by have := hbB; rw [HB0.out] at this; exact this
        by_cases hlt : k < l0.length
        case pos =>
          obtain ⟨bb, off, q, hA', hbl, c0_, c1_, c2_, HJ⟩ := (h0.below hbW).get hlt
          subst hA'
          have hq := tk_of HJ.out
          have i1 : (k : Int) < (l0.length : Int) := by omega
          have lm := ordM_len l0 hle (d := d) (k := k) (by omega) hk
          clear hbW
          by_cases g : q.due = (d : Int)
          case pos =>
            have e1 : (q.due == (d : Int)) = true := by simp [g]
            have HO : Hid (ordM l0 d (k + 1) = ordM l0 d k ++ [q]) := Lib.hid (by rw [ordM_yes (by rw [hq]; exact g), hq])
            obtain ⟨g1, hg1⟩ : ∃ g, g = wr.heap.size := ⟨_, rfl⟩
            obtain ⟨W1, hW1⟩ : ∃ W, W = wr.alloc (.cells #[.int .i64 q.per, .int .i64 q.work, .int .i64 q.due] 30) := ⟨_, rfl⟩
            have B1 : Blk W1 g1 30 #[.int .i64 q.per, .int .i64 q.work, .int .i64 q.due] := by rw [hW1, hg1]; exact Blk.new _ _ _
            have o1 := World.ownsRow.alloc own (.cells #[.int .i64 q.per, .int .i64 q.work, .int .i64 q.due] 30)
            rw [← hW1] at o1
            have szB : B0 ≤ wr.heap.size := by rw [HB0.out]; exact hbB.size
            have hb1 : Below B0 wb W1 := by rw [hW1]; exact hbB.alloc szB _
            have szW : B0 ≤ W1.heap.size := by rw [hW1]; simp; omega
            obtain ⟨x0, x1, x2⟩ := three_read B1
            have HW1 := Lib.hid hW1
            have HG1 := Lib.hid hg1
            clear hW1 hg1 hq own hbB szB HJ g
            go_upto_region 14 with fail
            rw [← HG1.out, ← HW1.out]
            clear c0_ c1_ c2_ HW1 HG1
            go_wp2_with (at_builtin; refine wpList_append_own _ rfl _ _ 22 rfl B0 30 i0 (.agg #[.int .i64 0, .int .i64 0, .int .i64 0]) 3 24 Try.underlying22 hi0 hz0 hz1 hz2 rfl (by decide) _ _ _ rfl (World.ownsRow.alloc o1 _) ⟨W1.heap.size, 0, none⟩ 1 1 [.int .i64 q.per, .int .i64 q.work, .int .i64 q.due] rfl rfl ?c11 ?c21 ?c31 ?c41 ?c51 ?_)
            case c11 => exact new_threeT _ _ _ _ _
            case c21 => exact three_oneT _ _ _
            case c31 => unfold maxLen; omega
            case c41 => omega
            case c51 => simp; omega
            intro v' w6 hown' hgrow _
            have hb6 : Below B0 wb w6 := (hb1.alloc szW _).grown hgrow (by simp; omega) (fun k hk => (o1.lt k hk).1)
            have o6 : w6.ownsRow B0 30 3 v' (ordM l0 d (k + 1)).length (qcs (ordM l0 d (k + 1))) := by rw [HO.out, qcs_snoc, List.length_append]; exact hown'
            clear hown' hgrow o1 hb1 B1 x0 x1 x2
            go_wp2
            go_roundw
            case rel => exact ⟨k + 1, by omega, by go_num, o6, hb6⟩
            case measure => simp [intOf]; omega
          have e1 : (q.due == (d : Int)) = false := by simp [g]
          have HO : Hid (ordM l0 d (k + 1) = ordM l0 d k) := Lib.hid (ordM_no (by rw [hq]; exact g))
          have szB : B0 ≤ wr.heap.size := by rw [HB0.out]; exact hbB.size
          clear hq
          go_wp2
          go_roundw
          case rel => exact ⟨k + 1, by omega, by go_num, by rw [HO.out]; exact World.ownsRow.alloc own _, hbB.alloc szB _⟩
          case measure => simp [intOf]; omega
        obtain rfl : k = l0.length := by omega
        have HO := Lib.hid (ordM_all l0 d)
        go_wp2
        go_roundw
        case rel => exact ⟨d + 1, by omega, by go_num, by rw [← HO.out]; exact own, hbB⟩
        case measure => simp [intOf]; omega
      obtain rfl : d = 61 := by omega
      have hbW : Below wb.heap.size wb wr := by have := hbB; rw [HB0.out] at this; exact this
      have hO : ordM l0 61 0 = srtT l0 f := by rw [ordM_zero, HO.out]
      rw [hO, length_srt] at own
      obtain ⟨Bo, co, rfl⟩ := row_formT own
      have ho := Tas.of_row (base := B0) (t := 30) (c := co) (l := srtT l0 f) (by rw [length_srt]; exact own)
      replace h0 := h0.below hbW
      replace hx := hx.below hbW
      replace hb := below_trans hb hbW
      go_wp2_with fail
      refine (taskSame B Bo (srtT l0 f) _ _ c co _ hx ho HL.out HL.out).mono ?_
      rintro e w9 ⟨rfl, n9, hw9⟩
      replace hb := below_trans hb (below_of_drewN hw9)
      clear hw9 hbW hbB own hO
      by_cases z : n1 < 0
      · go_wp2
        go_ret
        exact ⟨rfl, hb⟩
      · have e9 : decide (n1 < 0) = false := decide_eq_false z
        have e8 : decide (200 < n1) = true := decide_eq_true (by have := HH.out; omega)
        have z2 : 200 < n1 := by have := HH.out; omega
        go_wp2
        go_ret
        exact ⟨rfl, hb⟩
    · obtain ⟨H, rfl⟩ := Int.eq_ofNat_of_zero_le (show 0 ≤ n1 by omega)
      have H2 : H ≤ 200 := by omega
      go_wp2_with fail
      refine (rrun_yes a0 l0 c0 H _ h0 HE.out H2).mono ?_
      rintro e w3 ⟨By, ky, rfl, oy, b3⟩
      have iy : Ints w3 By (tab H (rkR l0)) := Ints.of_own (by rw [length_tab]; exact oy)
      replace h0 := h0.below b3
      replace hb := below_trans hb b3
      replace hx := hx.below b3
      clear b3 oy
      go_wp2_with fail
      refine (refTasks_any a0 l0 c0 _ h0).mono ?_
      rintro e wb ⟨rfl, b4⟩
      replace h0 := h0.below b4
      replace hb := below_trans hb b4
      replace hx := hx.below b4
      replace iy := iy.below b4
      clear b4 hH
      rw [HE.out]
      obtain ⟨B0, hB0⟩ : ∃ B0, B0 = wb.heap.size := ⟨_, rfl⟩
      have HB0 := Lib.hid hB0
      go_wp2
      go_loopw [10, 47] (fun v s wr => ∃ d : Nat, d ≤ 61 ∧ s = .int .i64 d ∧ wr.ownsRow B0 30 3 v (ordM l0 d 0).length (qcs (ordM l0 d 0)) ∧ Below B0 wb wr) (fun _ s _ => 61 - (intOf s).toNat)
      case atStart => exact ⟨0, by omega, rfl, World.ownsRow_nil _ _ _ _, by rw [hB0]; exact Below.refl _ _⟩
      clear hB0
      obtain ⟨d, hd, rfl, own, hbB⟩ := hrel
      by_cases hd61 : d < 61
      case pos =>
        have j1 : (d : Int) < 61 := by omega
        go_wp2
        go_loopw [10, 52] (fun v s wr => ∃ k : Nat, k ≤ l0.length ∧ s = .int .i64 k ∧ wr.ownsRow B0 30 3 v (ordM l0 d k).length (qcs (ordM l0 d k)) ∧ Below B0 wb wr) (fun _ s _ => l0.length - (intOf s).toNat)
        case atStart => exact ⟨0, Nat.zero_le _, rfl, own, hbB⟩
        clear own hbB
        obtain ⟨k, hk, rfl, own, hbB⟩ := hrel
        have hbW : Below wb.heap.size wb wr := by have := hbB; rw [HB0.out] at this; exact this
        by_cases hlt : k < l0.length
        case pos =>
          obtain ⟨bb, off, q, hA', hbl, c0_, c1_, c2_, HJ⟩ := (h0.below hbW).get hlt
          subst hA'
          have hq := tk_of HJ.out
          have i1 : (k : Int) < (l0.length : Int) := by omega
          have lm := ordM_len l0 hle (d := d) (k := k) (by omega) hk
          clear hbW
          by_cases g : q.due = (d : Int)
          case pos =>
            have e1 : (q.due == (d : Int)) = true := by simp [g]
            have HO : Hid (ordM l0 d (k + 1) = ordM l0 d k ++ [q]) := Lib.hid (by rw [ordM_yes (by rw [hq]; exact g), hq])
            obtain ⟨g1, hg1⟩ : ∃ g, g = wr.heap.size := ⟨_, rfl⟩
            obtain ⟨W1, hW1⟩ : ∃ W, W = wr.alloc (.cells #[.int .i64 q.per, .int .i64 q.work, .int .i64 q.due] 30) := ⟨_, rfl⟩
            have B1 : Blk W1 g1 30 #[.int .i64 q.per, .int .i64 q.work, .int .i64 q.due] := by rw [hW1, hg1]; exact Blk.new _ _ _
            have o1 := World.ownsRow.alloc own (.cells #[.int .i64 q.per, .int .i64 q.work, .int .i64 q.due] 30)
            rw [← hW1] at o1
            have szB : B0 ≤ wr.heap.size := by rw [HB0.out]; exact hbB.size
            have hb1 : Below B0 wb W1 := by rw [hW1]; exact hbB.alloc szB _
            have szW : B0 ≤ W1.heap.size := by rw [hW1]; simp; omega
            obtain ⟨x0, x1, x2⟩ := three_read B1
            have HW1 := Lib.hid hW1
            have HG1 := Lib.hid hg1
            clear hW1 hg1 hq own hbB szB HJ g
            go_upto_region 14 with fail
            rw [← HG1.out, ← HW1.out]
            clear c0_ c1_ c2_ HW1 HG1
            go_wp2_with (at_builtin; refine wpList_append_own _ rfl _ _ 22 rfl B0 30 i0 (.agg #[.int .i64 0, .int .i64 0, .int .i64 0]) 3 24 Try.underlying22 hi0 hz0 hz1 hz2 rfl (by decide) _ _ _ rfl (World.ownsRow.alloc o1 _) ⟨W1.heap.size, 0, none⟩ 1 1 [.int .i64 q.per, .int .i64 q.work, .int .i64 q.due] rfl rfl ?c12 ?c22 ?c32 ?c42 ?c52 ?_)
            case c12 => exact new_threeT _ _ _ _ _
            case c22 => exact three_oneT _ _ _
            case c32 => unfold maxLen; omega
            case c42 => omega
            case c52 => simp; omega
            intro v' w6 hown' hgrow _
            have hb6 : Below B0 wb w6 := (hb1.alloc szW _).grown hgrow (by simp; omega) (fun k hk => (o1.lt k hk).1)
            have o6 : w6.ownsRow B0 30 3 v' (ordM l0 d (k + 1)).length (qcs (ordM l0 d (k + 1))) := by rw [HO.out, qcs_snoc, List.length_append]; exact hown'
            clear hown' hgrow o1 hb1 B1 x0 x1 x2
            go_wp2
            go_roundw
            case rel => exact ⟨k + 1, by omega, by go_num, o6, hb6⟩
            case measure => simp [intOf]; omega
          have e1 : (q.due == (d : Int)) = false := by simp [g]
          have HO : Hid (ordM l0 d (k + 1) = ordM l0 d k) := Lib.hid (ordM_no (by rw [hq]; exact g))
          have szB : B0 ≤ wr.heap.size := by rw [HB0.out]; exact hbB.size
          clear hq
          go_wp2
          go_roundw
          case rel => exact ⟨k + 1, by omega, by go_num, by rw [HO.out]; exact World.ownsRow.alloc own _, hbB.alloc szB _⟩
          case measure => simp [intOf]; omega
        obtain rfl : k = l0.length := by omega
        have HO := Lib.hid (ordM_all l0 d)
        go_wp2
        go_roundw
        case rel => exact ⟨d + 1, by omega, by go_num, by rw [← HO.out]; exact own, hbB⟩
        case measure => simp [intOf]; omega
      obtain rfl : d = 61 := by omega
      have hbW : Below wb.heap.size wb wr := by have := hbB; rw [HB0.out] at this; exact this
      have hO : ordM l0 61 0 = srtT l0 f := by rw [ordM_zero, HO.out]
      rw [hO, length_srt] at own
      obtain ⟨Bo, co, rfl⟩ := row_formT own
      have ho := Tas.of_row (base := B0) (t := 30) (c := co) (l := srtT l0 f) (by rw [length_srt]; exact own)
      replace h0 := h0.below hbW
      replace hx := hx.below hbW
      replace hb := below_trans hb hbW
      replace iy := iy.below hbW
      go_wp2_with fail
      refine (taskSame B Bo (srtT l0 f) _ _ c co _ hx ho HL.out HL.out).mono ?_
      rintro e w9 ⟨rfl, n9, hw9⟩
      have b9 := below_of_drewN hw9
      replace h0 := h0.below b9
      replace hb := below_trans hb b9
      replace iy := iy.below b9
      clear hw9 hbW hbB own hO b9 hx ho
      have e9 : decide ((H : Int) < 0) = false := decide_eq_false (by omega)
      have e8 : decide (200 < (H : Int)) = false := decide_eq_false (by omega)
      have z1 : ¬ (H : Int) < 0 := by omega
      have z2 : ¬ 200 < (H : Int) := by omega
      have z3 : (H : Int) ≤ 200 := by omega
      have z4 : (0 : Int) ≤ (H : Int) := by omega
      go_wp2_with fail
      refine (refRanked_any a0 l0 _ c0 H _ h0 rfl v H2).mono ?_
      rintro e w10 ⟨g10, rfl, i10, b10⟩
      replace hb := below_trans hb b10
      replace iy := iy.below b10
      clear b10
      go_wp2_with fail
      refine (equal_at By _ (tab H (rkR l0)) (tab H (rkR l0)) H H _ _ _ iy i10 (length_tab _ _).symm (length_tab _ _).symm).mono ?_
      rintro e w11 ⟨rfl, n11, hw11⟩
      replace hb := below_trans hb (below_of_drewN hw11)
      clear hw11
      rw [eqB_true rfl]
      go_wp2
      go_ret
      exact ⟨rfl, hb⟩
  · have e1 : (tasE l0 != 0) = true := by simp [hE]
    go_wp2_with fail
    refine (order_no a0 l0 c0 _ h0 hE).mono ?_
    rintro e w2 ⟨rfl, b2⟩
    replace h0 := h0.below b2
    replace hb := below_trans hb b2
    clear b2
    go_wp2_with fail
    refine (rrun_no a0 l0 c0 n1 _ h0 hE).mono ?_
    rintro e w3 ⟨rfl, b3⟩
    replace h0 := h0.below b3
    replace hb := below_trans hb b3
    clear b3
    go_wp2_with fail
    refine (refTasks_any a0 l0 c0 _ h0).mono ?_
    rintro e w4 ⟨rfl, b4⟩
    replace h0 := h0.below b4
    replace hb := below_trans hb b4
    clear b4 hE
    go_wp2
    go_ret
    exact ⟨rfl, hb⟩

end Go.Proofs.Ytccjegnflienhaa
