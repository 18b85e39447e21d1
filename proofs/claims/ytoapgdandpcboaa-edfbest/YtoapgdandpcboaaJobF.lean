
/-
  The law EdfBest over what package edf owes.
-/
import Derived.Test.YtoapgdandpcboaaJobE
namespace Go.Proofs.Ytoapgdandpcboaa
set_option linter.all false
open Go.RowKit Go.Shelf Go.Lib

/-- What is left behind t slots of somebody's way. -/
def wyL (l : List Jb) (v : Nat → Int) : Nat → Nat → Int
  | 0 => fun i => (jb l i).work
  | t + 1 => fun i => wyL l v t i - if v t = (i : Int) ∧ (jb l i).at_ ≤ (t : Int) ∧ (t : Int) < (jb l i).due ∧ 0 < wyL l v t i then 1 else 0
theorem wyL_next (l : List Jb) (v : Nat → Int) (t i : Nat) : wyL l v (t + 1) i = wyL l v t i - if v t = (i : Int) ∧ (jb l i).at_ ≤ (t : Int) ∧ (t : Int) < (jb l i).due ∧ 0 < wyL l v t i then 1 else 0 := rfl
theorem wy_nn {l : List Jb} (j : Jobs l) (v : Nat → Int) : ∀ t i, i < l.length → 0 ≤ wyL l v t i
  | 0, i, hi => by have := j.w0 i hi; show 0 ≤ (jb l i).work; omega
  | t + 1, i, hi => by
    have := wy_nn j v t i hi
    rw [wyL_next]; split <;> omega
theorem wy_way {l : List Jb} (j : Jobs l) (v : Nat → Int) : Way l (wyL l v) := by
  refine ⟨wy_nn j v, fun t i _ => by rw [wyL_next]; split <;> omega, fun t => ⟨(v t).toNat, fun i _ => ⟨fun _ => by rw [wyL_next]; split <;> omega, fun h => ?_⟩⟩, ?_⟩
  · rw [wyL_next, if_neg (fun c => h (by omega))]; omega
  · intro t
    induction t with
    | zero => intro i _ _; rfl
    | succ t ih => intro i hi ht; rw [wyL_next, ih i hi (by omega), if_neg (fun c => by omega)]; omega
theorem wy_still {l : List Jb} {v : Nat → Int} {t i : Nat} (h : (jb l i).due ≤ (t : Int)) : ∀ d : Nat, wyL l v (t + d) i = wyL l v t i
  | 0 => rfl
  | d + 1 => by rw [show t + (d + 1) = t + d + 1 by omega, wyL_next, wy_still h d, if_neg (fun c => by omega)]; omega
theorem wy_dem {l : List Jb} (j : Jobs l) {v : Nat → Int} {m : Nat} (h0 : ∀ i, i < l.length → wyL l v m i = 0) : Dem l := by
  have w := wy_way j v
  refine w.dem j (fun i hi t ht => ?_)
  by_cases c : m ≤ t
  · exact w.zero hi c (h0 i hi)
  · have := wy_still (v := v) ht (m - t)
    rw [show t + (m - t) = m by omega, h0 i hi] at this
    exact this.symm
def WyGo (l : List Jb) (v : Nat → Int) (t m : Nat) : Prop := m < l.length ∧ (jb l m).at_ ≤ (t : Int) ∧ (t : Int) < (jb l m).due ∧ 0 < wyL l v t m
theorem wy_put {l : List Jb} {v : Nat → Int} {t m : Nat} (h : v t = (m : Int)) (g : WyGo l v t m) : ∀ i, fput (wyL l v t) m (wyL l v t m - 1) i = wyL l v (t + 1) i := fun i => by
  rw [wyL_next]
  unfold fput
  by_cases c : i = m
  · subst c; rw [if_pos rfl, if_pos ⟨h, g.2⟩]
  · rw [if_neg c, if_neg (fun x => by omega)]; omega
theorem wy_idle {l : List Jb} {v : Nat → Int} {t : Nat} (h : ∀ m : Nat, v t = (m : Int) → ¬ WyGo l v t m) : ∀ i, i < l.length → wyL l v t i = wyL l v (t + 1) i := fun i hi => by
  rw [wyL_next, if_neg (fun c => h i c.1 ⟨hi, c.2⟩)]; omega
theorem wyL_bd {l : List Jb} (j : JobsB l) (v : Nat → Int) (t : Nat) {i : Nat} (hi : i < l.length) : 0 ≤ wyL l v t i ∧ wyL l v t i ≤ 200 := by
  have w := wy_way j.toJobs v
  have a := w.nn t i hi
  have b := w.mono hi (s := 0) t
  rw [Nat.zero_add] at b
  have c : wyL l v 0 i = (jb l i).work := rfl
  have := j.w1 i hi
  omega
theorem ivs_ints {w : World} {g n : Nat} {F : Nat → Int} (h : Blk w g 3 (ivs n F)) (hn : n ≤ 1000) : Ints w (some ⟨g, 0, none⟩) ((List.range n).map F) := by
  refine ⟨by simp; omega, fun _ => ⟨g, 0, rfl, fun j hj => ?_⟩⟩
  have hj' : j < n := by simpa using hj
  rw [Nat.zero_add, ivs_cell h hj']
  simp [List.getD, hj']
def posB (x : Int) : Bool := decide (0 < x)
theorem posB_pr : Pr 19 posB := by
  refine ⟨enters_of Try.func19 (by kernel_rfl) rfl, fun x w => ?_⟩
  go_enter Try.func19, Try.ntmps19
  go_wp2
  go_ret
  exact ⟨rfl, rfl⟩
abbrev jb1 : List Jb := [⟨0, 2, 3⟩, ⟨1, 1, 2⟩]
theorem jb1_ok : jbsE jb1 = 0 := by decide
theorem jb1_none : ∀ i, ¬ IsLate jb1 i := none_of (by decide)

set_option maxRecDepth 100000 in
set_option maxHeartbeats 6400000 in
theorem v_EdfBest (E : EdfC) (a0 : Option Addr) (c0 : Nat) (l0 : List Jb) (a1 : Option Addr) (c1 : Nat) (l1 : List Int) (w : World) (h0 : Jbs w a0 l0) (_k0 : l0.length ≤ c0) (h1 : Ints w a1 l1) (k1 : l1.length ≤ c1) :
    Calls Try.prog 6 #[.slice a0 l0.length c0, .slice a1 l1.length c1] w fun e w' => e = .returned (.bool true) ∧ Below w.heap.size w w' := by
  have hb : Below w.heap.size w w := Below.refl _ _
  have hl := h0.le
  have hl1 := h1.1
  go_enter Try.func6, Try.ntmps6
  go_wp2_with fail
  refine (late_none E _ jb1 _ _ _ (by exact Jbs.lit _ jb1 _ _ rfl (by decide)) jb1_ok jb1_none rfl).mono ?_
  rintro e w1 ⟨rfl, b1⟩
  replace b1 := below_of1 b1
  replace h0 := h0.below b1
  replace h1 := h1.below b1
  replace hb := below_trans hb b1
  clear b1
  go_wp2_with fail
  refine (E.check a0 l0 c0 _ h0).mono ?_
  rintro e w2 ⟨rfl, b2⟩
  replace h0 := h0.below b2
  replace h1 := h1.below b2
  replace hb := below_trans hb b2
  clear b2
  by_cases hE : jbsE l0 = 0
  · have j := jbs_iff.1 hE
    have hle := j.le
    have hmk := fun W => made_ints l0.length (by omega) W
    have HE := Lib.hid hE
    rw [HE.out]
    clear hE
    obtain ⟨g, hg⟩ : ∃ g, g = w2.heap.size := ⟨_, rfl⟩
    have HG := Lib.hid hg
    have gle : w2.heap.size ≤ g := by omega
    clear hg
    obtain ⟨m, hm⟩ : ∃ m, m = min l1.length 200 := ⟨_, rfl⟩
    have m1 : m ≤ l1.length := by omega
    have m2 : m ≤ 200 := by omega
    have HM := Lib.hid hm
    clear hm
    go_wp2
    rw [← HG.out]
    go_loopw [31] (fun s wr => ∃ k : Nat, k ≤ l0.length ∧ s = .int .i64 k ∧ Blk wr g 3 (ivs l0.length (wkF l0 k)) ∧ Below w2.heap.size w2 wr) (fun s _ => l0.length - (intOf s).toNat)
    case atStart =>
      refine ⟨0, Nat.zero_le _, rfl, ?_, (Below.refl _ _).alloc (Nat.le_refl _) _⟩
      rw [HG.out]; exact Blk.new _ _ _
    case round =>
      clear HG
      obtain ⟨k, hk, rfl, K, hbel⟩ := hrel
      by_cases hlt : k < l0.length
      · obtain ⟨bb, off, q, hA', hbl, c0', c1', c2', HJ⟩ := (h0.below hbel).get hlt
        subst hA'
        have hq := jb_of HJ.out
        have i3 : (k : Int) < (l0.length : Int) := by omega
        obtain ⟨u, hu⟩ : ∃ u, u = wkF l0 k k := ⟨_, rfl⟩
        have cK : wr.cell? ⟨g, k, none⟩ = some (.int .i64 u) := by rw [ivs_cell K hlt, hu]
        have fK := K.frozen k
        have lK := K.lt
        have HKK : Hid (Blk (wr.setCell ⟨g, k, none⟩ (.int .i64 q.work)) g 3 (ivs l0.length (wkF l0 (k + 1)))) := Lib.hid (by
          have := ivs_put K k q.work
          rw [← hq, ivs_eq (fun i _ => wkF_put i)] at this
          rw [← hq]; exact this)
        have HBB := Lib.hid (hbel.setCell (p := ⟨g, k, none⟩) gle (.int .i64 q.work))
        have ne1 : ¬ g = wr.heap.size := by omega
        have ne2 : ¬ wr.heap.size = g := by omega
        clear hq hu K hbel
        go_wp2
        go_roundw
        case rel => exact ⟨k + 1, by omega, by go_num, HKK.out.alloc _, HBB.out.alloc HBB.out.size _⟩
        case measure => simp [intOf]; omega
      · obtain rfl : k = l0.length := by omega
        have i3 : ¬ (l0.length : Int) < (l0.length : Int) := by omega
        clear hlt
        go_upto_region 12 with fail
        go_cut [46, 47, 48] (fun s46 s47 s48 wx => ∃ A' c', s46 = .slice A' m c' ∧ s47 = .int .i64 m ∧ s48 = .int .i64 0 ∧ (0 < m → A' = a1) ∧ wx = wr)
        case first =>
          have hmm := HM.out
          rcases Nat.lt_trichotomy l1.length 200 with c | c | c
          · obtain rfl : m = l1.length := by omega
            have i5 : (l1.length : Int) < 200 := by omega
            clear hmm HM K
            cases a1 <;> (go_wp2_with fail; go_meet; exact ⟨_, _, rfl, rfl, rfl, fun h => by first | rfl | trace_state, rfl⟩)
          · obtain rfl : m = 200 := by omega
            obtain ⟨b1, o1, rfl, _⟩ := h1.2 (by omega)
            have i5 : ¬ (l1.length : Int) < 200 := by omega
            have i5' : (200 : Int) ≤ (l1.length : Int) := by omega
            have i6 : 200 ≤ c1 := by omega
            have HC := Lib.hid c
            clear hmm HM K c
            go_wp2_with fail
            all_goals
              go_meet
              first
                | exact ⟨_, _, rfl, rfl, rfl, fun _ => rfl, rfl⟩
                | exact ⟨_, _, by rw [HC.out], by rw [HC.out], rfl, fun _ => rfl, rfl⟩
                | exact ⟨_, _, by rw [HC.out], by rw [HC.out]; rfl, rfl, fun _ => rfl, rfl⟩
          · obtain rfl : m = 200 := by omega
            obtain ⟨b1, o1, rfl, _⟩ := h1.2 (by omega)
            have i5 : (200 : Int) < (l1.length : Int) := by omega
            have i6 : 200 ≤ c1 := by omega
            clear hmm HM K
            go_wp2_with fail
            go_meet
            exact ⟨_, _, rfl, rfl, rfl, fun _ => rfl, rfl⟩
        case rest =>
        obtain ⟨A', cc', rfl, rfl, rfl, hA1, rfl⟩ := hcut
        obtain ⟨v, hv⟩ : ∃ v : Nat → Int, v = fun t => gt l1 t := ⟨_, rfl⟩
        have HV := Lib.hid hv
        clear hv i3 hmk
        go_wp2
        go_loopw [48] (fun s wr => ∃ t : Nat, t ≤ m ∧ s = .int .i64 t ∧ Blk wr g 3 (ivs l0.length (wyL l0 v t)) ∧ Below w2.heap.size w2 wr) (fun s _ => m - (intOf s).toNat)
        case atStart =>
          refine ⟨0, Nat.zero_le _, rfl, ?_, hbel⟩
          rw [ivs_eq (G := wyL l0 v 0) (fun i hi => by unfold wkF; rw [if_pos hi]; rfl)] at K
          exact K
        case round =>
          clear K hbel
          obtain ⟨t, ht, rfl, K, hbel⟩ := hrel
          by_cases hlt : t < m
          · obtain ⟨b1, o1, y, hB, hc1, HY⟩ := (h1.below hbel).at_ (k := t) (by omega)
            have hAA := hA1 (by omega)
            subst hAA
            subst hB
            have hy : v t = y := by rw [HV.out]; exact gt_of_get HY.out
            have HYV := Lib.hid hy
            have i3 : (t : Int) < (m : Int) := by omega
            clear hy HY
            by_cases hC : ∃ k : Nat, y = (k : Int) ∧ WyGo l0 v t k
            · obtain ⟨k, rfl, G⟩ := hC
              obtain ⟨bb, off, q, hA', hbl, c0', c1', c2', HJ⟩ := (h0.below hbel).get G.1
              subst hA'
              have hq := jb_of HJ.out
              have g1 : q.at_ ≤ (t : Int) := by have := G.2.1; rwa [hq] at this
              have g2 : (t : Int) < q.due := by have := G.2.2.1; rwa [hq] at this
              obtain ⟨Lk, hLk⟩ : ∃ Lk, Lk = wyL l0 v t k := ⟨_, rfl⟩
              have g3 : 0 < Lk := by rw [hLk]; exact G.2.2.2
              have Lb := (wyL_bd j v t G.1).2
              rw [← hLk] at Lb
              have cK : wr.cell? ⟨g, k, none⟩ = some (.int .i64 Lk) := by rw [ivs_cell K G.1, hLk]
              have fK := K.frozen k
              have HKK : Hid (Blk (wr.setCell ⟨g, k, none⟩ (.int .i64 (Lk - 1))) g 3 (ivs l0.length (wyL l0 v (t + 1)))) := Lib.hid (by
                have := ivs_put K k (Lk - 1)
                rw [hLk, ivs_eq (fun i _ => wy_put HYV.out G i)] at this
                rw [hLk]; exact this)
              have HBB := Lib.hid (hbel.setCell (p := ⟨g, k, none⟩) gle (.int .i64 (Lk - 1)))
              have e1 : decide (0 ≤ (k : Int)) = true := decide_eq_true (by omega)
              have i5 : (k : Int) < (l0.length : Int) := by have := G.1; omega
              have e2 : decide ((k : Int) < (l0.length : Int)) = true := decide_eq_true i5
              have e3 : decide (q.at_ ≤ (t : Int)) = true := decide_eq_true g1
              have e4 : decide ((t : Int) < q.due) = true := decide_eq_true g2
              have e5 : decide (0 < Lk) = true := decide_eq_true g3
              clear hq hLk K hbel G
              go_wp2
              go_roundw
              case rel => exact ⟨t + 1, by omega, by go_num, HKK.out, HBB.out⟩
              case measure => simp [intOf]; omega
            · have K' : Blk wr g 3 (ivs l0.length (wyL l0 v (t + 1))) := by
                rw [← ivs_eq (fun i hi => wy_idle (fun k hk G => hC ⟨k, by rw [← HYV.out]; exact hk, G⟩) i hi)]; exact K
              go_upto_region 15 with fail
              go_cut [85] (fun b wx => b = .bool false ∧ wx = wr)
              case first =>
                by_cases y0 : 0 ≤ y
                · obtain ⟨k, rfl⟩ := Int.eq_ofNat_of_zero_le y0
                  by_cases y1 : (k : Int) < (l0.length : Int)
                  · have kl : k < l0.length := by omega
                    obtain ⟨bb, off, q, hA', hbl, c0', c1', c2', HJ⟩ := (h0.below hbel).get kl
                    subst hA'
                    have hq := jb_of HJ.out
                    obtain ⟨Lk, hLk⟩ : ∃ Lk, Lk = wyL l0 v t k := ⟨_, rfl⟩
                    have cK : wr.cell? ⟨g, k, none⟩ = some (.int .i64 Lk) := by rw [ivs_cell K kl, hLk]
                    have e1 : decide (0 ≤ (k : Int)) = true := decide_eq_true (by omega)
                    have e2 : decide ((k : Int) < (l0.length : Int)) = true := decide_eq_true y1
                    have nC : ¬ (q.at_ ≤ (t : Int) ∧ (t : Int) < q.due ∧ 0 < Lk) := fun x => hC ⟨k, rfl, kl, by rw [hq]; exact x.1, by rw [hq]; exact x.2.1, by rw [← hLk]; exact x.2.2⟩
                    clear hC hLk hq K K'
                    by_cases g1 : q.at_ ≤ (t : Int)
                    · have e3 : decide (q.at_ ≤ (t : Int)) = true := decide_eq_true g1
                      by_cases g2 : (t : Int) < q.due
                      · have e4 : decide ((t : Int) < q.due) = true := decide_eq_true g2
                        have g3 : ¬ 0 < Lk := fun x => nC ⟨g1, g2, x⟩
                        have e5 : decide (0 < Lk) = false := decide_eq_false g3
                        clear nC
                        go_wp2_with fail
                        go_meet
                        exact ⟨rfl, rfl⟩
                      · have e4 : decide ((t : Int) < q.due) = false := decide_eq_false g2
                        clear nC
                        go_wp2_with fail
                        go_meet
                        exact ⟨rfl, rfl⟩
                    · have e3 : decide (q.at_ ≤ (t : Int)) = false := decide_eq_false g1
                      clear nC
                      go_wp2_with fail
                      go_meet
                      exact ⟨rfl, rfl⟩
                  · have e1 : decide (0 ≤ (k : Int)) = true := decide_eq_true (by omega)
                    have e2 : decide ((k : Int) < (l0.length : Int)) = false := decide_eq_false y1
                    clear hC K K'
                    go_wp2_with fail
                    go_meet
                    exact ⟨rfl, rfl⟩
                · have e1 : decide (0 ≤ y) = false := decide_eq_false y0
                  clear hC K K'
                  go_wp2_with fail
                  go_meet
                  exact ⟨rfl, rfl⟩
              case rest =>
              obtain ⟨rfl, rfl⟩ := hcut
              clear K hC
              go_wp2
              go_roundw
              case rel => exact ⟨t + 1, by omega, by go_num, K', hbel⟩
              case measure => simp [intOf]; omega
          · obtain rfl : t = m := by omega
            have i3 : ¬ (t : Int) < (t : Int) := by omega
            have hI := ivs_ints K (by omega)
            have hcon := containsFunc_any _ posB posB_pr (some ⟨g, 0, none⟩) ((List.range l0.length).map (wyL l0 v t)) l0.length wr hI
            rw [show ((List.range l0.length).map (wyL l0 v t)).length = l0.length by simp] at hcon
            replace h0 := h0.below hbel
            replace hb := below_trans hb hbel
            cases q : ((List.range l0.length).map (wyL l0 v t)).any posB
            · have hz : ∀ i, i < l0.length → wyL l0 v t i = 0 := fun i hi => by
                rw [List.any_eq_false] at q
                have := q (wyL l0 v t i) (List.mem_map.mpr ⟨i, List.mem_range.mpr hi, rfl⟩)
                have a := wy_nn j.toJobs v t i hi
                unfold posB at this
                simp at this
                omega
              have hn := (none_late j.toJobs).mpr (wy_dem j.toJobs hz)
              rw [q] at hcon
              clear q K hI
              go_wp2_with fail
              refine hcon.mono ?_
              rintro e w3 ⟨rfl, rfl⟩
              go_wp2_with fail
              refine (late_none E a0 l0 _ c0 _ h0 HE.out hn rfl).mono ?_
              rintro e w4 ⟨rfl, b4⟩
              go_wp2
              go_ret
              exact ⟨rfl, below_trans hb b4⟩
            · rw [q] at hcon
              clear q K hI
              go_wp2_with fail
              refine hcon.mono ?_
              rintro e w3 ⟨rfl, rfl⟩
              go_wp2
              go_ret
              exact ⟨rfl, hb⟩
  · have e1 : (jbsE l0 != 0) = true := by simp [hE]
    go_wp2
    go_ret
    exact ⟨rfl, hb⟩

end Go.Proofs.Ytoapgdandpcboaa
