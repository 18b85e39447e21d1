
/-
  Numbers in a block; the law EdfRuns over what package edf owes.
-/
import Derived.Test.YtoapgdandpcboaaJobD
import Derived.Test.YtoapgdandpcboaaPrA
import Derived.Laws.MakeOwn
import Derived.Deep.DeepCutAuto
namespace Go.Proofs.Ytoapgdandpcboaa
set_option linter.all false
open Go.RowKit Go.Shelf Go.Lib

def ivs (n : Nat) (F : Nat → Int) : Array Value := ((List.range n).map (fun i => Value.int .i64 (F i))).toArray
theorem ivs_get {n i : Nat} (F : Nat → Int) (h : i < n) : (ivs n F)[i]? = some (.int .i64 (F i)) := by simp [ivs, h]
def fput (F : Nat → Int) (i : Nat) (v : Int) : Nat → Int := fun j => if j = i then v else F j
theorem ivs_set {n i : Nat} (F : Nat → Int) (v : Int) : (ivs n F).setIfInBounds i (.int .i64 v) = ivs n (fput F i v) := by
  apply Array.ext_getElem?
  intro k
  rw [Array.getElem?_setIfInBounds]
  by_cases c : k < n
  · by_cases e : i = k
    · subst e
      rw [if_pos rfl, if_pos (by simpa [ivs] using c), ivs_get _ c]; simp [fput]
    · rw [if_neg e, ivs_get _ c, ivs_get _ c]; unfold fput; rw [if_neg (fun h : k = i => e h.symm)]
  · have h1 : (ivs n F)[k]? = none := by simp [ivs, c]
    have h2 : (ivs n (fput F i v))[k]? = none := by simp [ivs, c]
    rw [h1, h2]
    by_cases e : i = k
    · subst e; rw [if_pos rfl, if_neg (by simpa [ivs] using c)]
    · rw [if_neg e]
theorem ivs_eq {n : Nat} {F G : Nat → Int} (h : ∀ i, i < n → F i = G i) : ivs n F = ivs n G := by
  unfold ivs
  congr 1
  exact List.map_congr_left (fun i hi => by rw [h i (List.mem_range.mp hi)])
theorem ivs_made (n : Nat) : madeCells #[Value.int .i64 0] n = ivs n (fun _ => 0) := by
  apply Array.ext_getElem?
  intro i
  by_cases c : i < n
  · rw [ivs_get _ c]; simp [madeCells, c, Nat.mod_one]
  · simp [madeCells, ivs, c]
theorem made_ints (n : Nat) (hn : n ≤ 60) (W : World) : (Instr.makeSlice 23 (.int .i64 n) (.int .i64 n)).run Try.prog W = .ok (.slice (some ⟨W.heap.size, 0, none⟩) n n) (W.alloc (.cells (ivs n (fun _ => 0)) 3)) := by
  obtain ⟨i, hi, hz⟩ := Option.map_eq_some_iff.1 int_info
  simp only [Prod.mk.injEq] at hz
  obtain ⟨hz, hs, hb⟩ := hz
  have hr := run_make (P := Try.prog) W 23 3 i _ Try.underlying23 hi hz .i64 .i64 n n (by omega) (by omega) (by rw [hb]; omega) (by omega)
  simp only [Int.toNat_natCast, hs, Nat.mul_one] at hr
  rw [← ivs_made]
  exact hr
theorem ivs_put {w : World} {g n : Nat} {F : Nat → Int} (h : Blk w g 3 (ivs n F)) (i : Nat) (v : Int) : Blk (w.setCell ⟨g, i, none⟩ (.int .i64 v)) g 3 (ivs n (fput F i v)) := by
  have := h.set_ i (.int .i64 v)
  rwa [ivs_set] at this
theorem ivs_cell {w : World} {g n i : Nat} {F : Nat → Int} (h : Blk w g 3 (ivs n F)) (hi : i < n) : w.cell? ⟨g, i, none⟩ = some (.int .i64 (F i)) := by rw [h.cell, ivs_get _ hi]
/-- Each job's work, one after the other. -/
def wkF (l : List Jb) (k i : Nat) : Int := if i < k then (jb l i).work else 0
theorem wkF_put {l : List Jb} {k : Nat} : ∀ i, fput (wkF l k) k (jb l k).work i = wkF l (k + 1) i := fun i => by
  unfold fput wkF
  by_cases c : i = k
  · subst c; rw [if_pos rfl, if_pos (by omega)]
  · rw [if_neg c]
    by_cases d : i < k
    · rw [if_pos d, if_pos (by omega)]
    · rw [if_neg d, if_neg (by omega)]
theorem edL_put {l : List Jb} {t k : Nat} (h : edR l t = (k : Int)) : ∀ i, fput (edL l t) k (edL l t k - 1) i = edL l (t + 1) i := fun i => by
  rw [edL_next, h]
  unfold fput
  by_cases c : i = k
  · subst c; rw [if_pos rfl, if_pos rfl]
  · rw [if_neg c, if_neg (by omega)]; omega
theorem edL_idle {l : List Jb} {t : Nat} (h : edR l t = -1) : ∀ i, edL l t i = edL l (t + 1) i := fun i => by
  rw [edL_next, h, if_neg (by omega)]; omega
theorem end_of {l : List Jb} (j : Jobs l) {n : Nat} (hn : n ≤ 200) (h0 : ∀ i, i < l.length → edL l n i = 0) (hl : n = 0 ∨ 0 ≤ edR l (n - 1)) : IsEnd (edR l) 200 n := by
  refine ⟨hn, fun t h1 _ => ?_, hl⟩
  rcases edR_range l t with c | ⟨k, c, hk⟩
  · omega
  · have p := ((ed_edf l).pick t k c).1
    have := ((ed_edf l).way j).zero hk h1 (h0 k hk)
    have := p.2.2
    omega
theorem edL_bd {l : List Jb} (j : JobsB l) (t : Nat) {i : Nat} (hi : i < l.length) : 0 ≤ edL l t i ∧ edL l t i ≤ 200 := by
  have w := (ed_edf l).way j.toJobs
  have a := w.nn t i hi
  have b := w.mono hi (s := 0) t
  rw [Nat.zero_add] at b
  have c : edL l 0 i = (jb l i).work := rfl
  have := j.w1 i hi
  omega
theorem run_at_ {l : List Jb} {x : List Int} {n : Nat} (e : x = tab n (edR l)) : x.length = n ∧ ∀ t, t < n → gt x t = edR l t := by
  subst e
  exact ⟨length_tab _ _, fun t ht => gt_tab _ ht⟩

abbrev jr1 : List Jb := [⟨1, 2, 9⟩, ⟨2, 1, 4⟩]
theorem jr1_ok : jbsE jr1 = 0 := by decide
theorem jr1_run : IsRun jr1 [-1, 0, 1, 0] := ⟨4, end_of (jbs_iff.1 jr1_ok).toJobs (by omega) (by decide) (by decide), by decide⟩

set_option maxRecDepth 100000 in
set_option maxHeartbeats 6400000 in
theorem v_EdfRuns (E : EdfC) (a0 : Option Addr) (c0 : Nat) (l0 : List Jb) (w : World) (h0 : Jbs w a0 l0) (_k0 : l0.length ≤ c0) :
    Calls Try.prog 7 #[.slice a0 l0.length c0] w fun e w' => e = .returned (.bool true) ∧ Below w.heap.size w w' := by
  have hb : Below w.heap.size w w := Below.refl _ _
  have hl := h0.le
  go_enter Try.func7, Try.ntmps7
  go_wp2_with fail
  refine (E.run _ jr1 _ _ (by exact Jbs.lit _ jr1 _ _ rfl (by decide)) jr1_ok).mono ?_
  rintro e w1 ⟨x1, B1, k1, hx1, rfl, o1, b1⟩
  obtain rfl := hx1.uniq jr1_run
  have i1 : Ints w1 B1 [-1, 0, 1, 0] := Ints.of_own o1
  replace b1 := below_of1 b1
  replace h0 := h0.below b1
  replace hb := below_trans hb b1
  clear b1 o1 hx1
  go_wp2_with fail
  refine (equal_at B1 _ [-1, 0, 1, 0] [-1, 0, 1, 0] _ _ _ _ _ (by exact Ints.alloc i1 _) (by exact Ints.lit _ [-1, 0, 1, 0] _ _ rfl (by decide)) rfl rfl).mono ?_
  rintro e w2 ⟨rfl, n2, hw2⟩
  have b2 := below_of1 (below_of_drewN hw2)
  rw [eqB_true rfl]
  replace h0 := h0.below b2
  replace hb := below_trans hb b2
  clear b2 hw2 i1
  by_cases hE : jbsE l0 = 0
  · have j := jbs_iff.1 hE
    have hle := j.le
    have hmk := fun W => made_ints l0.length (by omega) W
    go_wp2_with fail
    refine (E.run a0 l0 c0 _ h0 hE).mono ?_
    rintro e w3 ⟨x, B, kx, ⟨n, hend, hx⟩, rfl, ox, b3⟩
    have hX : Ints w3 B x := Ints.of_own ox
    obtain ⟨xl, xg⟩ := run_at_ hx
    have n200 := hend.1
    have HXG := Lib.hid xg
    have HEND := Lib.hid hend
    have HXL := Lib.hid xl
    replace h0 := h0.below b3
    replace hb := below_trans hb b3
    clear b3 ox hx xg hend hE
    rw [HXL.out]
    clear xl
    obtain ⟨g, hg⟩ : ∃ g, g = w3.heap.size := ⟨_, rfl⟩
    have HG := Lib.hid hg
    have gle : w3.heap.size ≤ g := by omega
    clear hg
    go_wp2
    rw [← HG.out]
    go_loopw [50] (fun s wr => ∃ k : Nat, k ≤ l0.length ∧ s = .int .i64 k ∧ Blk wr g 3 (ivs l0.length (wkF l0 k)) ∧ Below w3.heap.size w3 wr) (fun s _ => l0.length - (intOf s).toNat)
    case atStart =>
      refine ⟨0, Nat.zero_le _, rfl, ?_, (Below.refl _ _).alloc (Nat.le_refl _) _⟩
      rw [HG.out]; exact Blk.new _ _ _
    case round =>
      clear HG
      obtain ⟨k, hk, rfl, K, hbel⟩ := hrel
      by_cases hlt : k < l0.length
      · obtain ⟨bb, off, q, hA', hbl, c0', c1', c2', HJ⟩ := (h0.below hbel).get hlt
        subst hA'
        have hq := jb_of HJ.out
        have i3 : (k : Int) < (l0.length : Int) := by omega
        obtain ⟨u, hu⟩ : ∃ u, u = wkF l0 k k := ⟨_, rfl⟩
        have cK : wr.cell? ⟨g, k, none⟩ = some (.int .i64 u) := by rw [ivs_cell K hlt, hu]
        have fK := K.frozen k
        have lK := K.lt
        have HKK : Hid (Blk (wr.setCell ⟨g, k, none⟩ (.int .i64 q.work)) g 3 (ivs l0.length (wkF l0 (k + 1)))) := Lib.hid (by
          have := ivs_put K k q.work
          rw [← hq, ivs_eq (fun i _ => wkF_put i)] at this
          rw [← hq]; exact this)
        have HBB := Lib.hid (hbel.setCell (p := ⟨g, k, none⟩) gle (.int .i64 q.work))
        have ne1 : ¬ g = wr.heap.size := by omega
        have ne2 : ¬ wr.heap.size = g := by omega
        clear hq hu K hbel
        go_wp2
        go_roundw
        case rel => exact ⟨k + 1, by omega, by go_num, HKK.out.alloc _, HBB.out.alloc HBB.out.size _⟩
        case measure => simp [intOf]; omega
      · obtain rfl : k = l0.length := by omega
        have i3 : ¬ (l0.length : Int) < (l0.length : Int) := by omega
        clear hlt
        go_wp2
        go_loopw [63] (fun s wr => ∃ t : Nat, t ≤ n ∧ s = .int .i64 t ∧ Blk wr g 3 (ivs l0.length (edL l0 t)) ∧ Below w3.heap.size w3 wr) (fun s _ => n - (intOf s).toNat)
        case atStart =>
          refine ⟨0, Nat.zero_le _, rfl, ?_, hbel⟩
          rw [ivs_eq (G := edL l0 0) (fun i hi => by unfold wkF; rw [if_pos hi]; rfl)] at K
          exact K
        case round =>
          clear K hbel i3
          obtain ⟨t, ht, rfl, K, hbel⟩ := hrel
          by_cases hlt : t < n
          · obtain ⟨b1, o1, y, hB, hc1, HY⟩ := (hX.below hbel).at_ (k := t) (by rw [HXL.out]; exact hlt)
            subst hB
            have hy := gt_of_get HY.out
            rw [HXG.out t hlt] at hy
            have i3 : (t : Int) < (n : Int) := by omega
            have Ed := ed_edf l0
            -- which job
            have hr := edR_range l0 t
            rw [hy] at hr
            have y0 : ¬ y < -1 := by rcases hr with c | ⟨k, c, _⟩ <;> omega
            have y1 : ¬ (l0.length : Int) ≤ y := by rcases hr with c | ⟨k, c, hk⟩ <;> omega
            have e1 : decide (y < -1) = false := decide_eq_false y0
            have e2 : decide ((l0.length : Int) ≤ y) = false := decide_eq_false y1
            have HYR := Lib.hid hy
            have HR := Lib.hid hr
            clear hy hr
            have ml := j.le
            go_wp2
            clear e1 e2
            go_loopw [78] (fun s wi => ∃ k : Nat, k ≤ l0.length ∧ s = .int .i64 k ∧ Blk wi g 3 (ivs l0.length (edL l0 t)) ∧ Below w3.heap.size w3 wi) (fun s _ => l0.length - (intOf s).toNat)
            case atStart => exact ⟨0, Nat.zero_le _, rfl, K, hbel⟩
            case round =>
              clear K hbel hc1
              obtain ⟨k, hk, rfl, K, hbel⟩ := hrel
              by_cases hlk : k < l0.length
              · obtain ⟨bb, off, q, hA', hbl, c0', c1', c2', HJ⟩ := (h0.below hbel).get hlk
                subst hA'
                have hq := jb_of HJ.out
                obtain ⟨Lk, hLk⟩ : ∃ Lk, Lk = edL l0 t k := ⟨_, rfl⟩
                have Lb := edL_bd j t hlk
                rw [← hLk] at Lb
                obtain ⟨Lb0, Lb1⟩ := Lb
                obtain ⟨W, hW⟩ : ∃ W, W = wr.alloc (.cells #[.int .i64 q.at_, .int .i64 q.work, .int .i64 q.due] 31) := ⟨_, rfl⟩
                have KW : Blk W g 3 (ivs l0.length (edL l0 t)) := by rw [hW]; exact K.alloc _
                have KJ : Blk W wr.heap.size 31 #[.int .i64 q.at_, .int .i64 q.work, .int .i64 q.due] := by rw [hW]; exact Blk.new _ _ _
                have bW : Below w3.heap.size w3 W := by rw [hW]; exact hbel.alloc hbel.size _
                have cK : W.cell? ⟨g, k, none⟩ = some (.int .i64 Lk) := by rw [ivs_cell KW hlk, hLk]
                obtain ⟨r0, r1, r2⟩ := three_read KJ
                have HW := Lib.hid hW
                have i4 : (k : Int) < (l0.length : Int) := by omega
                have HP : Hid (q.at_ ≤ (t : Int) → 0 < Lk → ∃ m : Nat, y = (m : Int) ∧ m < l0.length ∧ ¬ q.due < (jb l0 m).due) := Lib.hid (fun h1 h2 => by
                  have pn : Pend l0 (edL l0) t k := ⟨hlk, by rw [hq]; exact h1, by rw [← hLk]; exact h2⟩
                  rcases HR.out with c | ⟨m, c, hm⟩
                  · exact absurd pn (Ed.idle t (by rw [HYR.out]; omega) k)
                  · have := (Ed.pick t m (by rw [HYR.out, c])).2 k pn
                    rw [hq] at this
                    exact ⟨m, c, hm, by omega⟩)
                clear hq hLk hW K KJ hbel
                by_cases g1 : q.at_ ≤ (t : Int)
                · have e1 : decide (q.at_ ≤ (t : Int)) = true := decide_eq_true g1
                  by_cases g2 : 0 < Lk
                  · have e2 : decide (0 < Lk) = true := decide_eq_true g2
                    obtain ⟨m, hm, hml, hdm⟩ := HP.out g1 g2
                    subst hm
                    obtain ⟨bb2, off2, r, hA', hbl2, d0, d1, d2, HJ2⟩ := (h0.below bW).get hml
                    obtain ⟨rfl, rfl⟩ : bb2 = bb ∧ off2 = off := by injection hA' with hA'; injection hA' with e1 e2; exact ⟨e1.symm, e2.symm⟩
                    rw [jb_of HJ2.out] at hdm
                    have e3 : decide ((m : Int) < 0) = false := decide_eq_false (by omega)
                    have e4 : decide (q.due < r.due) = false := decide_eq_false hdm
                    have i5 : (m : Int) < (l0.length : Int) := by omega
                    clear hA' HP
                    go_wp2
                    rw [← HW.out]
                    go_quiet (fail)
                    go_wp2
                    go_roundw
                    case rel => exact ⟨k + 1, by omega, by go_num, KW, ⟨bW.os, bW.tape, bW.output, bW.size, bW.block⟩⟩
                    case measure => simp [intOf]; omega
                  · have e2 : decide (0 < Lk) = false := decide_eq_false g2
                    clear HP
                    go_wp2
                    rw [← HW.out]
                    go_quiet (fail)
                    go_wp2
                    go_roundw
                    case rel => exact ⟨k + 1, by omega, by go_num, KW, ⟨bW.os, bW.tape, bW.output, bW.size, bW.block⟩⟩
                    case measure => simp [intOf]; omega
                · have e1 : decide (q.at_ ≤ (t : Int)) = false := decide_eq_false g1
                  clear HP
                  go_wp2
                  rw [← HW.out]
                  go_quiet (fail)
                  go_wp2
                  go_roundw
                  case rel => exact ⟨k + 1, by omega, by go_num, KW, ⟨bW.os, bW.tape, bW.output, bW.size, bW.block⟩⟩
                  case measure => simp [intOf]; omega
              · have i4 : ¬ (k : Int) < (l0.length : Int) := by omega
                clear hlk
                rcases HR.out with c | ⟨m, c, hm⟩
                · subst c
                  have K' : Blk wr g 3 (ivs l0.length (edL l0 (t + 1))) := by rw [← ivs_eq (fun i _ => edL_idle HYR.out i)]; exact K
                  clear K
                  go_wp2
                  go_roundw
                  case rel => exact ⟨t + 1, by omega, by go_num, K', hbel⟩
                  case measure => simp [intOf]; omega
                · subst c
                  obtain ⟨bb, off, q, hA', hbl, c0', c1', c2', HJ⟩ := (h0.below hbel).get hm
                  subst hA'
                  have pk := (Ed.pick t m HYR.out).1
                  have hat : ¬ (t : Int) < q.at_ := by have := pk.2.1; rw [jb_of HJ.out] at this; omega
                  obtain ⟨Lm, hLm⟩ : ∃ Lm, Lm = edL l0 t m := ⟨_, rfl⟩
                  have Lb := edL_bd j t hm
                  have Lp := pk.2.2
                  rw [← hLm] at Lb Lp
                  obtain ⟨Lb0, Lb1⟩ := Lb
                  have cM : wr.cell? ⟨g, m, none⟩ = some (.int .i64 Lm) := by rw [ivs_cell K hm, hLm]
                  have fM := K.frozen m
                  have HKM : Hid (Blk (wr.setCell ⟨g, m, none⟩ (.int .i64 (Lm - 1))) g 3 (ivs l0.length (edL l0 (t + 1)))) := Lib.hid (by
                    have := ivs_put K m (Lm - 1)
                    rw [hLm, ivs_eq (fun i _ => edL_put HYR.out i)] at this
                    rw [hLm]; exact this)
                  have HBM := Lib.hid (hbel.setCell (p := ⟨g, m, none⟩) gle (.int .i64 (Lm - 1)))
                  have e1 : decide ((t : Int) < q.at_) = false := decide_eq_false hat
                  have e2 : (Lm == 0) = false := by rw [beq_eq_false_iff_ne]; omega
                  have i5 : (m : Int) < (l0.length : Int) := by omega
                  have i6 : (0 : Int) ≤ (m : Int) := by omega
                  clear K hbel pk hLm
                  go_wp2
                  go_roundw
                  case rel => exact ⟨t + 1, by omega, by go_num, HKM.out, HBM.out⟩
                  case measure => simp [intOf]; omega
          · obtain rfl : t = n := by omega
            have i3 : ¬ (t : Int) < (t : Int) := by omega
            have HL := HEND.out.2.2
            rcases HL with z | z
            · subst z
              clear K
              go_wp2
              go_ret
              exact ⟨rfl, below_trans hb hbel⟩
            · by_cases t0 : t = 0
              · subst t0
                clear K
                go_wp2
                go_ret
                exact ⟨rfl, below_trans hb hbel⟩
              · obtain ⟨u, hu⟩ : ∃ u, u = t - 1 := ⟨_, rfl⟩
                obtain ⟨b1, o1, y, hB, hc1, HY⟩ := (hX.below hbel).at_ (k := u) (by rw [HXL.out]; omega)
                subst hB
                have hy := gt_of_get HY.out
                rw [HXG.out u (by omega)] at hy
                rw [← hu, hy] at z
                have e0 : ((t : Int) == 0) = false := by rw [beq_eq_false_iff_ne]; omega
                have e1 : decide (0 ≤ y) = true := decide_eq_true z
                have eu : IntKind.i64.wrap ((t : Int) - 1) = (u : Int) := by rw [IntWalk.i64_in _ ⟨by omega, by omega⟩]; omega
                have eu2 : (t : Int) - 1 = (u : Int) := by omega
                have i5 : (u : Int) < (t : Int) := by omega
                clear K hu hy t0
                go_wp2
                go_ret
                exact ⟨rfl, below_trans hb hbel⟩
  · have e1 : (jbsE l0 != 0) = true := by simp [hE]
    go_wp2_with fail
    refine (E.run_no a0 l0 c0 _ h0 hE).mono ?_
    rintro e w3 ⟨rfl, b3⟩
    replace h0 := h0.below b3
    replace hb := below_trans hb b3
    go_wp2_with fail
    refine (E.check a0 l0 c0 _ h0).mono ?_
    rintro e w4 ⟨rfl, b4⟩
    replace h0 := h0.below b4
    replace hb := below_trans hb b4
    clear b3 b4
    go_wp2
    go_ret
    exact ⟨rfl, hb⟩

end Go.Proofs.Ytoapgdandpcboaa
