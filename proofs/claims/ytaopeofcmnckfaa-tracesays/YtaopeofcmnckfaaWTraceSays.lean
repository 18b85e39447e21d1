
/-
  The walk of the law TraceSays.
-/
import Derived.Test.YtaopeofcmnckfaaBoundA
namespace Go.Proofs.Ytaopeofcmnckfaa
set_option linter.all false
open Go.RowKit Go.Shelf

/-- Want, behind k slots. -/
def wt (F : Nat → Int) : Nat → Int
  | 0 => 0
  | k + 1 => if 10000 < F k then 2 else wt F k
theorem wt_eq (F : Nat → Int) (n : Nat) : wt F n = if (tab n F).any (fun x => decide (10000 < x)) = true then 2 else 0 := by
  induction n with
  | zero => simp [wt, tab_zero]
  | succ n ih =>
    rw [wt, ih, tab_succ, List.any_append]
    by_cases h : 10000 < F n
    · simp [h]
    · simp [h]



set_option maxHeartbeats 6400000 in
theorem walk_TraceSays (a0 : Option Addr) (c0 : Nat) (l0 : List Int) (a1 : Option Addr) (c1 : Nat) (l1 : List Int) (w : World)
    (h0 : Ints w a0 l0) (k0 : l0.length ≤ c0) (h1 : Ints w a1 l1) (k1 : l1.length ≤ c1) :
    Calls Try.prog 3 #[.slice a0 l0.length c0, .slice a1 l1.length c1] w fun e w' => e = .returned (.bool true) ∧ Below w.heap.size w w' := by
  have hb : Below w.heap.size w w := Below.refl _ _
  obtain ⟨i0, hi0, hz0, hz1, hz2⟩ := info_parts int_info
  have t0 : (trk l0 != trk l0) = false := by simp
  by_cases q0 : trk l0 = 0
  · have v0 := trk_iff.1 q0
    have Q0 : Hid (eqB (trL l0) (adL l0) = true) := Lib.hid (eqB_true (trL_yes v0))
    have t1 : (trk l0 != 0) = false := by simp [q0]
    clear q0
    by_cases q1 : chk l1 = 0
    · have v1 := cv_of q1
      have hp := v1.pos
      have hle := v1.le
      have t2 : (chk l1 == 0) = true := by simp [q1]
      have i4 : (0 : Int) < (l1.length : Int) := by omega
      by_cases q2 : gt l1 0 = 0
      · obtain ⟨n, hn⟩ : ∃ n, n = l1.length - 1 := ⟨_, rfl⟩
        have hn1 : l1.length ≤ n + 1 := by omega
        have hn2 : n + 1 ≤ l1.length := by omega
        have en : (l1.length : Int) - 1 = (n : Int) := by omega
        obtain ⟨F, hF⟩ : ∃ F : Nat → Int, F = fun t => gt l1 (t + 1) - gt l1 t := ⟨_, rfl⟩
        have HD : Hid (difL l1 = tab n F) := Lib.hid (by rw [difL, hF, hn])
        have HV : Hid (∀ t, F t = gt l1 (t + 1) - gt l1 t) := Lib.hid (fun t => by rw [hF])
        have HS : Hid (sloE l1 = if jmpB l1 = true then 2 else 0) := Lib.hid (by simp [sloE, q1, q2])
        have HG := Lib.hid q2
        have HC := Lib.hid q1
        clear hF hn q1 q2 t2
        go_enter Try.func3, Try.ntmps3
        go_wp2_with fail
        refine (trSum_any a0 l0 c0 _ h0).mono ?_
        rintro e w1 ⟨Ax, cx, rfl, ox, bw1⟩
        replace h0 := h0.below bw1
        replace h1 := h1.below bw1
        replace hb := below_trans hb bw1
        have hx := Ints.of_own ox
        clear bw1 ox
        go_wp2_with fail
        refine (refTrace_any a0 l0 c0 _ h0).mono ?_
        rintro e w' ⟨rfl, rfl⟩
        go_wp2_with fail
        refine (trCheck_any a0 l0 c0 _ h0).mono ?_
        rintro e w' ⟨rfl, rfl⟩
        go_wp2_with fail
        refine (refAdded_any a0 l0 c0 _ h0 v0).mono ?_
        rintro e w2 ⟨Ay, cy, rfl, oy, bw2⟩
        replace h0 := h0.below bw2
        replace h1 := h1.below bw2
        replace hx := hx.below bw2
        replace hb := below_trans hb bw2
        have hy := Ints.of_own oy
        clear bw2 oy
        go_wp2_with fail
        refine (equal_at Ax Ay (trL l0) (adL l0) _ _ _ _ _ hx hy rfl rfl).mono ?_
        rintro e w3 ⟨rfl, nw3, hww3⟩
        have bw3 := below_of_drewN hww3
        clear hww3
        replace h0 := h0.below bw3
        replace h1 := h1.below bw3
        replace hb := below_trans hb bw3
        clear bw3
        rw [Q0.out]
        clear hx hy
        go_wp2_with fail
        refine (slots_any a1 l1 c1 _ h1).mono ?_
        rintro e w4 ⟨Az, cz, rfl, oz, bw4⟩
        replace h1 := h1.below bw4
        replace hb := below_trans hb bw4
        have hz := Ints.of_own oz
        clear bw4 oz
        go_wp2_with fail
        refine (refCurve_any a1 l1 c1 _ h1).mono ?_
        rintro e w' ⟨rfl, rfl⟩
        rw [HC.out]
        obtain ⟨bq, oq, rfl, hcq⟩ := h1.first hp
        rw [HG.out] at hcq
        obtain ⟨wo, hwo⟩ : ∃ wo : World, wo = w4 := ⟨_, rfl⟩
        subst hwo
        go_wp2
        go_loopw [7, 9, 61] (fun q v i wr => ∃ k : Nat, k ≤ n ∧ i = .int .i64 k ∧ q = .int .i64 (wt F k) ∧ wr.ownsRow wo.heap.size 3 1 v k ((tab k F).map (Value.int .i64)) ∧ Below wo.heap.size wo wr) (fun _ _ i _ => n - (intOf i).toNat)
        case atStart => exact ⟨0, Nat.zero_le _, rfl, rfl, by rw [tab_zero]; exact World.ownsRow_nil _ _ _ _, Below.refl _ _⟩
        case round =>
          obtain ⟨t, ht, rfl, rfl, hown, hbel⟩ := hrel
          obtain ⟨T, hT⟩ : ∃ T, T = wt F t := ⟨_, rfl⟩
          rw [← hT]
          by_cases hlt : t < n
          · obtain ⟨b1, o1, x, e1, hc1, HX⟩ := (h1.below hbel).at_ (k := t) (by omega)
            obtain ⟨rfl, rfl⟩ : b1 = bq ∧ o1 = oq := by injection e1 with e1; injection e1 with e1 e2; exact ⟨e1.symm, e2.symm⟩
            obtain ⟨b2, o2, y, e2, hc2, HY⟩ := (h1.below hbel).at_ (k := t + 1) (by omega)
            obtain ⟨rfl, rfl⟩ : b2 = b1 ∧ o2 = o1 := by injection e2 with e1; injection e1 with e1 e2; exact ⟨e1.symm, e2.symm⟩
            clear e1 e2
            have hx := gt_of_get HX.out
            have hy := gt_of_get HY.out
            have x0 : 0 ≤ x := by rw [← hx]; exact v1.lo t (by omega)
            have x1 : x ≤ 1000000 := by rw [← hx]; exact v1.hi t (by omega)
            have y0 : 0 ≤ y := by rw [← hy]; exact v1.lo (t + 1) (by omega)
            have y1 : y ≤ 1000000 := by rw [← hy]; exact v1.hi (t + 1) (by omega)
            have HT : Hid (F t = y - x) := Lib.hid (by rw [HV.out, hx, hy])
            have HW : Hid (wt F (t + 1) = if 10000 < y - x then 2 else T) := Lib.hid (by rw [wt, HT.out, ← hT])
            have i1 : (t : Int) < (l1.length : Int) := by omega
            have i2 : (t : Int) + 1 < (l1.length : Int) := by omega
            have s1 : IntKind.i64.wrap ((t : Int) + 1) = (t : Int) + 1 := IntWalk.i64_in _ ⟨by omega, by omega⟩
            have s2 : IntKind.i64.wrap (y - x) = y - x := IntWalk.i64_in _ ⟨by omega, by omega⟩
            have s3 : ((t : Int) + 1).toNat = t + 1 := by omega
            have z0 : (0 : Int) ≤ (t : Int) := by omega
            have z1 : (0 : Int) ≤ (t : Int) + 1 := by omega
            clear hx hy hT
            have hsz := hbel.size
            have lb1 : b2 < wo.heap.size := cell_lt hcq
            have n1 : u9.ownBlock ≠ some b2 := fun e => by have := (hown.lt _ e).1; omega
            go_wp2
            go_region_held3 (fun w' => w'.cell? ⟨b2, o2 + t, none⟩ = some (.int .i64 x) ∧ w'.cell? ⟨b2, o2 + (t + 1), none⟩ = some (.int .i64 y)) (first | go_keep | (go_split_ands; refine ⟨?_, ?_⟩ <;> (rw [hgrow.cell_far _ (by simp; omega) (Ne.symm n1)]; assumption)))
              ((refine step_append_lies _ (by rfl) _ _ _ (by rfl) wo.heap.size 3 i0 _ 1 8 Try.underlying22 hi0 hz0 hz1 hz2 rfl (by omega) u9 t ((tab t F).map (Value.int .i64)) (by rfl) ((World.ownsRow.alloc hown _).drew)
                  ⟨wr.heap.size, 0, none⟩ 1 1 [.int .i64 (y - x)] (by rfl) (by rfl) (World.news_of_block (cs := #[.int .i64 (y - x)]) (t := 3) (fr := (0, 0)) (heap_alloc_new wr _)) (by simp [Value.oneCell'])
                  (by omega) (by unfold maxLen; omega) (by omega) (by simp; omega) (wr.heap.size + 1) (by simp) ?_; intro gg cap w1 hown1 hgrow hat hlt'))
            have hbel' : Below wo.heap.size wo w1 := (((hbel.alloc hbel.size _).drew).grown hgrow (by simp; omega) (fun k hk => (hown.lt k hk).1))
            have hown'' : w1.ownsRow wo.heap.size 3 1 (.slice (some ⟨gg, 0, none⟩) (t + 1) cap) (t + 1) ((tab (t + 1) F).map (Value.int .i64)) := by rw [tab_succ, List.map_append, HT.out]; exact hown1
            have hd1 := (h1.below hbel').at_ (k := t) (by omega)
            clear hown1 hgrow hown hbel hat hc1 hc2
            obtain ⟨b3, o3, x', e3, hc3, HX'⟩ := hd1
            obtain ⟨rfl, rfl⟩ : b3 = b2 ∧ o3 = o2 := by injection e3 with e1; injection e1 with e1 e2; exact ⟨e1.symm, e2.symm⟩
            obtain rfl : x' = x := by have := HX.out; rw [HX'.out] at this; injection this
            obtain ⟨b4, o4, y', e4, hc4, HY'⟩ := (h1.below hbel').at_ (k := t + 1) (by omega)
            obtain ⟨rfl, rfl⟩ : b4 = b3 ∧ o4 = o3 := by injection e4 with e1; injection e1 with e1 e2; exact ⟨e1.symm, e2.symm⟩
            obtain rfl : y' = y := by have := HY.out; rw [HY'.out] at this; injection this
            clear e3 e4
            by_cases q : 10000 < y' - x'
            · have e1 : decide (10000 < y' - x') = true := decide_eq_true q
              go_wp2
              go_quiet (fail)
              go_wp2
              go_roundw
              case rel => exact ⟨t + 1, by omega, by go_num, by rw [HW.out, if_pos q], hown'', below_trans hbel' (below_of_drewN rfl)⟩
              case measure => simp [intOf]; omega
            · have e1 : decide (10000 < y' - x') = false := decide_eq_false q
              go_wp2
              go_quiet (fail)
              go_wp2
              go_roundw
              case rel => exact ⟨t + 1, by omega, by go_num, by rw [HW.out, if_neg (by omega)], hown'', below_trans hbel' (below_of_drewN rfl)⟩
              case measure => simp [intOf]; omega
          · obtain rfl : t = n := by omega
            have HE : Hid (T = sloE l1) := Lib.hid (by rw [hT, wt_eq, ← HD.out, HS.out]; rfl)
            clear hT
            by_cases hj : sloE l1 = 0
            · have HJ := Lib.hid hj
              have HL : Hid (sloL l1 = tab t F) := Lib.hid (by rw [sloL, if_pos hj, HD.out])
              have e0 : (T != 0) = false := by rw [HE.out, hj]; rfl
              have e1 : (sloE l1 == 0) = true := by rw [hj]; rfl
              clear hj
              have hz' := hz.below hbel
              obtain ⟨Av, cv, rfl, hv⟩ : ∃ Av cv, u9 = .slice Av t cv ∧ Ints wr Av (tab t F) := by
                rcases AnsL.of (w := wo) (L := tab t F) (by rw [length_tab]; exact hown) hbel with ⟨Av, cv, e, ho, _⟩
                injection e with e
                rw [length_tab] at e
                exact ⟨Av, cv, e, Ints.of_own ho⟩
              have hbz := below_trans hb hbel
              go_wp2_with fail
              refine (equal_at Az Av (sloL l1) (tab t F) _ _ _ _ _ hz' hv rfl (length_tab _ _).symm).mono ?_
              rintro e w5 ⟨rfl, n5, hw5⟩
              have b5 := below_trans hbz (below_of_drewN hw5)
              clear hw5
              rw [eqB_true HL.out]
              go_wp2
              go_ret
              exact ⟨rfl, b5⟩
            · have HL : Hid (sloL l1 = []) := Lib.hid (by rw [sloL, if_neg hj])
              have e0 : (T != 0) = true := by rw [HE.out]; simp [hj]
              have e1 : (sloE l1 == T) = true := by rw [HE.out]; simp
              have e2 : (((sloL l1).length : Int) == 0) = true := by rw [HL.out]; rfl
              have hbz := below_trans hb hbel
              clear hj
              go_wp2
              go_ret
              exact ⟨rfl, hbz⟩
      · have q3 : 0 < gt l1 0 := by have := v1.lo 0 hp; omega
        obtain ⟨g, hg⟩ : ∃ g, g = gt l1 0 := ⟨_, rfl⟩
        rw [← hg] at q3
        have HG := Lib.hid hg
        have HE : Hid (sloE l1 = 3) := Lib.hid (by simp [sloE, q1, q2])
        have HL : Hid (sloL l1 = []) := Lib.hid (by rw [sloL, HE.out]; rfl)
        have e1 : (sloE l1 == 3) = true := by rw [HE.out]; rfl
        have e2 : (((sloL l1).length : Int) == 0) = true := by rw [HL.out]; rfl
        clear q1 q2 hg
        go_enter Try.func3, Try.ntmps3
        go_wp2_with fail
        refine (trSum_any a0 l0 c0 _ h0).mono ?_
        rintro e w1 ⟨Ax, cx, rfl, ox, bw1⟩
        replace h0 := h0.below bw1
        replace h1 := h1.below bw1
        replace hb := below_trans hb bw1
        have hx := Ints.of_own ox
        clear bw1 ox
        go_wp2_with fail
        refine (refTrace_any a0 l0 c0 _ h0).mono ?_
        rintro e w' ⟨rfl, rfl⟩
        go_wp2_with fail
        refine (trCheck_any a0 l0 c0 _ h0).mono ?_
        rintro e w' ⟨rfl, rfl⟩
        go_wp2_with fail
        refine (refAdded_any a0 l0 c0 _ h0 v0).mono ?_
        rintro e w2 ⟨Ay, cy, rfl, oy, bw2⟩
        replace h0 := h0.below bw2
        replace h1 := h1.below bw2
        replace hx := hx.below bw2
        replace hb := below_trans hb bw2
        have hy := Ints.of_own oy
        clear bw2 oy
        go_wp2_with fail
        refine (equal_at Ax Ay (trL l0) (adL l0) _ _ _ _ _ hx hy rfl rfl).mono ?_
        rintro e w3 ⟨rfl, nw3, hww3⟩
        have bw3 := below_of_drewN hww3
        clear hww3
        replace h0 := h0.below bw3
        replace h1 := h1.below bw3
        replace hb := below_trans hb bw3
        clear bw3
        rw [Q0.out]
        clear hx hy
        go_wp2_with fail
        refine (slots_any a1 l1 c1 _ h1).mono ?_
        rintro e w4 ⟨Az, cz, rfl, oz, bw4⟩
        replace h1 := h1.below bw4
        replace hb := below_trans hb bw4
        have hz := Ints.of_own oz
        clear bw4 oz
        go_wp2_with fail
        refine (refCurve_any a1 l1 c1 _ h1).mono ?_
        rintro e w' ⟨rfl, rfl⟩
        obtain ⟨bq, oq, rfl, hcq⟩ := h1.first hp
        rw [← HG.out] at hcq
        go_wp2
        go_ret
        exact ⟨rfl, hb⟩
    · have t2 : (chk l1 == 0) = false := by simp [q1]
      have t3 : (chk l1 != 0) = true := by simp [q1]
      have HE : Hid (sloE l1 = chk l1) := Lib.hid (by simp [sloE, q1])
      have HL : Hid (sloL l1 = []) := Lib.hid (by rw [sloL, if_neg (by rw [HE.out]; exact q1)])
      have e1 : (sloE l1 == chk l1) = true := by rw [HE.out]; simp
      have e2 : (((sloL l1).length : Int) == 0) = true := by rw [HL.out]; rfl
      clear q1
      go_enter Try.func3, Try.ntmps3
      go_wp2_with fail
      refine (trSum_any a0 l0 c0 _ h0).mono ?_
      rintro e w1 ⟨Ax, cx, rfl, ox, bw1⟩
      replace h0 := h0.below bw1
      replace h1 := h1.below bw1
      replace hb := below_trans hb bw1
      have hx := Ints.of_own ox
      clear bw1 ox
      go_wp2_with fail
      refine (refTrace_any a0 l0 c0 _ h0).mono ?_
      rintro e w' ⟨rfl, rfl⟩
      go_wp2_with fail
      refine (trCheck_any a0 l0 c0 _ h0).mono ?_
      rintro e w' ⟨rfl, rfl⟩
      go_wp2_with fail
      refine (refAdded_any a0 l0 c0 _ h0 v0).mono ?_
      rintro e w2 ⟨Ay, cy, rfl, oy, bw2⟩
      replace h0 := h0.below bw2
      replace h1 := h1.below bw2
      replace hx := hx.below bw2
      replace hb := below_trans hb bw2
      have hy := Ints.of_own oy
      clear bw2 oy
      go_wp2_with fail
      refine (equal_at Ax Ay (trL l0) (adL l0) _ _ _ _ _ hx hy rfl rfl).mono ?_
      rintro e w3 ⟨rfl, nw3, hww3⟩
      have bw3 := below_of_drewN hww3
      clear hww3
      replace h0 := h0.below bw3
      replace h1 := h1.below bw3
      replace hb := below_trans hb bw3
      clear bw3
      rw [Q0.out]
      clear hx hy
      go_wp2_with fail
      refine (slots_any a1 l1 c1 _ h1).mono ?_
      rintro e w4 ⟨Az, cz, rfl, oz, bw4⟩
      replace h1 := h1.below bw4
      replace hb := below_trans hb bw4
      have hz := Ints.of_own oz
      clear bw4 oz
      go_wp2_with fail
      refine (refCurve_any a1 l1 c1 _ h1).mono ?_
      rintro e w' ⟨rfl, rfl⟩
      go_wp2
      go_ret
      exact ⟨rfl, hb⟩
  · have t1 : (trk l0 != 0) = true := by simp [q0]
    have t4 : (((trL l0).length : Int) != 0) = false := by rw [trL_no q0]; rfl
    clear q0
    by_cases q1 : chk l1 = 0
    · have v1 := cv_of q1
      have hp := v1.pos
      have hle := v1.le
      have t2 : (chk l1 == 0) = true := by simp [q1]
      have i4 : (0 : Int) < (l1.length : Int) := by omega
      by_cases q2 : gt l1 0 = 0
      · obtain ⟨n, hn⟩ : ∃ n, n = l1.length - 1 := ⟨_, rfl⟩
        have hn1 : l1.length ≤ n + 1 := by omega
        have hn2 : n + 1 ≤ l1.length := by omega
        have en : (l1.length : Int) - 1 = (n : Int) := by omega
        obtain ⟨F, hF⟩ : ∃ F : Nat → Int, F = fun t => gt l1 (t + 1) - gt l1 t := ⟨_, rfl⟩
        have HD : Hid (difL l1 = tab n F) := Lib.hid (by rw [difL, hF, hn])
        have HV : Hid (∀ t, F t = gt l1 (t + 1) - gt l1 t) := Lib.hid (fun t => by rw [hF])
        have HS : Hid (sloE l1 = if jmpB l1 = true then 2 else 0) := Lib.hid (by simp [sloE, q1, q2])
        have HG := Lib.hid q2
        have HC := Lib.hid q1
        clear hF hn q1 q2 t2
        go_enter Try.func3, Try.ntmps3
        go_wp2_with fail
        refine (trSum_any a0 l0 c0 _ h0).mono ?_
        rintro e w1 ⟨Ax, cx, rfl, ox, bw1⟩
        replace h0 := h0.below bw1
        replace h1 := h1.below bw1
        replace hb := below_trans hb bw1
        have hx := Ints.of_own ox
        clear bw1 ox
        go_wp2_with fail
        refine (refTrace_any a0 l0 c0 _ h0).mono ?_
        rintro e w' ⟨rfl, rfl⟩
        go_wp2_with fail
        refine (trCheck_any a0 l0 c0 _ h0).mono ?_
        rintro e w' ⟨rfl, rfl⟩
        go_wp2_with fail
        refine (slots_any a1 l1 c1 _ h1).mono ?_
        rintro e w4 ⟨Az, cz, rfl, oz, bw4⟩
        replace h1 := h1.below bw4
        replace hb := below_trans hb bw4
        have hz := Ints.of_own oz
        clear bw4 oz
        go_wp2_with fail
        refine (refCurve_any a1 l1 c1 _ h1).mono ?_
        rintro e w' ⟨rfl, rfl⟩
        rw [HC.out]
        obtain ⟨bq, oq, rfl, hcq⟩ := h1.first hp
        rw [HG.out] at hcq
        obtain ⟨wo, hwo⟩ : ∃ wo : World, wo = w4 := ⟨_, rfl⟩
        subst hwo
        go_wp2
        go_loopw [7, 9, 61] (fun q v i wr => ∃ k : Nat, k ≤ n ∧ i = .int .i64 k ∧ q = .int .i64 (wt F k) ∧ wr.ownsRow wo.heap.size 3 1 v k ((tab k F).map (Value.int .i64)) ∧ Below wo.heap.size wo wr) (fun _ _ i _ => n - (intOf i).toNat)
        case atStart => exact ⟨0, Nat.zero_le _, rfl, rfl, by rw [tab_zero]; exact World.ownsRow_nil _ _ _ _, Below.refl _ _⟩
        case round =>
          obtain ⟨t, ht, rfl, rfl, hown, hbel⟩ := hrel
          obtain ⟨T, hT⟩ : ∃ T, T = wt F t := ⟨_, rfl⟩
          rw [← hT]
          by_cases hlt : t < n
          · obtain ⟨b1, o1, x, e1, hc1, HX⟩ := (h1.below hbel).at_ (k := t) (by omega)
            obtain ⟨rfl, rfl⟩ : b1 = bq ∧ o1 = oq := by injection e1 with e1; injection e1 with e1 e2; exact ⟨e1.symm, e2.symm⟩
            obtain ⟨b2, o2, y, e2, hc2, HY⟩ := (h1.below hbel).at_ (k := t + 1) (by omega)
            obtain ⟨rfl, rfl⟩ : b2 = b1 ∧ o2 = o1 := by injection e2 with e1; injection e1 with e1 e2; exact ⟨e1.symm, e2.symm⟩
            clear e1 e2
            have hx := gt_of_get HX.out
            have hy := gt_of_get HY.out
            have x0 : 0 ≤ x := by rw [← hx]; exact v1.lo t (by omega)
            have x1 : x ≤ 1000000 := by rw [← hx]; exact v1.hi t (by omega)
            have y0 : 0 ≤ y := by rw [← hy]; exact v1.lo (t + 1) (by omega)
            have y1 : y ≤ 1000000 := by rw [← hy]; exact v1.hi (t + 1) (by omega)
            have HT : Hid (F t = y - x) := Lib.hid (by rw [HV.out, hx, hy])
            have HW : Hid (wt F (t + 1) = if 10000 < y - x then 2 else T) := Lib.hid (by rw [wt, HT.out, ← hT])
            have i1 : (t : Int) < (l1.length : Int) := by omega
            have i2 : (t : Int) + 1 < (l1.length : Int) := by omega
            have s1 : IntKind.i64.wrap ((t : Int) + 1) = (t : Int) + 1 := IntWalk.i64_in _ ⟨by omega, by omega⟩
            have s2 : IntKind.i64.wrap (y - x) = y - x := IntWalk.i64_in _ ⟨by omega, by omega⟩
            have s3 : ((t : Int) + 1).toNat = t + 1 := by omega
            have z0 : (0 : Int) ≤ (t : Int) := by omega
            have z1 : (0 : Int) ≤ (t : Int) + 1 := by omega
            clear hx hy hT
            have hsz := hbel.size
            have lb1 : b2 < wo.heap.size := cell_lt hcq
            have n1 : u9.ownBlock ≠ some b2 := fun e => by have := (hown.lt _ e).1; omega
            go_wp2
            go_region_held3 (fun w' => w'.cell? ⟨b2, o2 + t, none⟩ = some (.int .i64 x) ∧ w'.cell? ⟨b2, o2 + (t + 1), none⟩ = some (.int .i64 y)) (first | go_keep | (go_split_ands; refine ⟨?_, ?_⟩ <;> (rw [hgrow.cell_far _ (by simp; omega) (Ne.symm n1)]; assumption)))
              ((refine step_append_lies _ (by rfl) _ _ _ (by rfl) wo.heap.size 3 i0 _ 1 8 Try.underlying22 hi0 hz0 hz1 hz2 rfl (by omega) u9 t ((tab t F).map (Value.int .i64)) (by rfl) ((World.ownsRow.alloc hown _).drew)
                  ⟨wr.heap.size, 0, none⟩ 1 1 [.int .i64 (y - x)] (by rfl) (by rfl) (World.news_of_block (cs := #[.int .i64 (y - x)]) (t := 3) (fr := (0, 0)) (heap_alloc_new wr _)) (by simp [Value.oneCell'])
                  (by omega) (by unfold maxLen; omega) (by omega) (by simp; omega) (wr.heap.size + 1) (by simp) ?_; intro gg cap w1 hown1 hgrow hat hlt'))
            have hbel' : Below wo.heap.size wo w1 := (((hbel.alloc hbel.size _).drew).grown hgrow (by simp; omega) (fun k hk => (hown.lt k hk).1))
            have hown'' : w1.ownsRow wo.heap.size 3 1 (.slice (some ⟨gg, 0, none⟩) (t + 1) cap) (t + 1) ((tab (t + 1) F).map (Value.int .i64)) := by rw [tab_succ, List.map_append, HT.out]; exact hown1
            have hd1 := (h1.below hbel').at_ (k := t) (by omega)
            clear hown1 hgrow hown hbel hat hc1 hc2
            obtain ⟨b3, o3, x', e3, hc3, HX'⟩ := hd1
            obtain ⟨rfl, rfl⟩ : b3 = b2 ∧ o3 = o2 := by injection e3 with e1; injection e1 with e1 e2; exact ⟨e1.symm, e2.symm⟩
            obtain rfl : x' = x := by have := HX.out; rw [HX'.out] at this; injection this
            obtain ⟨b4, o4, y', e4, hc4, HY'⟩ := (h1.below hbel').at_ (k := t + 1) (by omega)
            obtain ⟨rfl, rfl⟩ : b4 = b3 ∧ o4 = o3 := by injection e4 with e1; injection e1 with e1 e2; exact ⟨e1.symm, e2.symm⟩
            obtain rfl : y' = y := by have := HY.out; rw [HY'.out] at this; injection this
            clear e3 e4
            by_cases q : 10000 < y' - x'
            · have e1 : decide (10000 < y' - x') = true := decide_eq_true q
              go_wp2
              go_quiet (fail)
              go_wp2
              go_roundw
              case rel => exact ⟨t + 1, by omega, by go_num, by rw [HW.out, if_pos q], hown'', below_trans hbel' (below_of_drewN rfl)⟩
              case measure => simp [intOf]; omega
            · have e1 : decide (10000 < y' - x') = false := decide_eq_false q
              go_wp2
              go_quiet (fail)
              go_wp2
              go_roundw
              case rel => exact ⟨t + 1, by omega, by go_num, by rw [HW.out, if_neg (by omega)], hown'', below_trans hbel' (below_of_drewN rfl)⟩
              case measure => simp [intOf]; omega
          · obtain rfl : t = n := by omega
            have HE : Hid (T = sloE l1) := Lib.hid (by rw [hT, wt_eq, ← HD.out, HS.out]; rfl)
            clear hT
            by_cases hj : sloE l1 = 0
            · have HJ := Lib.hid hj
              have HL : Hid (sloL l1 = tab t F) := Lib.hid (by rw [sloL, if_pos hj, HD.out])
              have e0 : (T != 0) = false := by rw [HE.out, hj]; rfl
              have e1 : (sloE l1 == 0) = true := by rw [hj]; rfl
              clear hj
              have hz' := hz.below hbel
              obtain ⟨Av, cv, rfl, hv⟩ : ∃ Av cv, u9 = .slice Av t cv ∧ Ints wr Av (tab t F) := by
                rcases AnsL.of (w := wo) (L := tab t F) (by rw [length_tab]; exact hown) hbel with ⟨Av, cv, e, ho, _⟩
                injection e with e
                rw [length_tab] at e
                exact ⟨Av, cv, e, Ints.of_own ho⟩
              have hbz := below_trans hb hbel
              go_wp2_with fail
              refine (equal_at Az Av (sloL l1) (tab t F) _ _ _ _ _ hz' hv rfl (length_tab _ _).symm).mono ?_
              rintro e w5 ⟨rfl, n5, hw5⟩
              have b5 := below_trans hbz (below_of_drewN hw5)
              clear hw5
              rw [eqB_true HL.out]
              go_wp2
              go_ret
              exact ⟨rfl, b5⟩
            · have HL : Hid (sloL l1 = []) := Lib.hid (by rw [sloL, if_neg hj])
              have e0 : (T != 0) = true := by rw [HE.out]; simp [hj]
              have e1 : (sloE l1 == T) = true := by rw [HE.out]; simp
              have e2 : (((sloL l1).length : Int) == 0) = true := by rw [HL.out]; rfl
              have hbz := below_trans hb hbel
              clear hj
              go_wp2
              go_ret
              exact ⟨rfl, hbz⟩
      · have q3 : 0 < gt l1 0 := by have := v1.lo 0 hp; omega
        obtain ⟨g, hg⟩ : ∃ g, g = gt l1 0 := ⟨_, rfl⟩
        rw [← hg] at q3
        have HG := Lib.hid hg
        have HE : Hid (sloE l1 = 3) := Lib.hid (by simp [sloE, q1, q2])
        have HL : Hid (sloL l1 = []) := Lib.hid (by rw [sloL, HE.out]; rfl)
        have e1 : (sloE l1 == 3) = true := by rw [HE.out]; rfl
        have e2 : (((sloL l1).length : Int) == 0) = true := by rw [HL.out]; rfl
        clear q1 q2 hg
        go_enter Try.func3, Try.ntmps3
        go_wp2_with fail
        refine (trSum_any a0 l0 c0 _ h0).mono ?_
        rintro e w1 ⟨Ax, cx, rfl, ox, bw1⟩
        replace h0 := h0.below bw1
        replace h1 := h1.below bw1
        replace hb := below_trans hb bw1
        have hx := Ints.of_own ox
        clear bw1 ox
        go_wp2_with fail
        refine (refTrace_any a0 l0 c0 _ h0).mono ?_
        rintro e w' ⟨rfl, rfl⟩
        go_wp2_with fail
        refine (trCheck_any a0 l0 c0 _ h0).mono ?_
        rintro e w' ⟨rfl, rfl⟩
        go_wp2_with fail
        refine (slots_any a1 l1 c1 _ h1).mono ?_
        rintro e w4 ⟨Az, cz, rfl, oz, bw4⟩
        replace h1 := h1.below bw4
        replace hb := below_trans hb bw4
        have hz := Ints.of_own oz
        clear bw4 oz
        go_wp2_with fail
        refine (refCurve_any a1 l1 c1 _ h1).mono ?_
        rintro e w' ⟨rfl, rfl⟩
        obtain ⟨bq, oq, rfl, hcq⟩ := h1.first hp
        rw [← HG.out] at hcq
        go_wp2
        go_ret
        exact ⟨rfl, hb⟩
    · have t2 : (chk l1 == 0) = false := by simp [q1]
      have t3 : (chk l1 != 0) = true := by simp [q1]
      have HE : Hid (sloE l1 = chk l1) := Lib.hid (by simp [sloE, q1])
      have HL : Hid (sloL l1 = []) := Lib.hid (by rw [sloL, if_neg (by rw [HE.out]; exact q1)])
      have e1 : (sloE l1 == chk l1) = true := by rw [HE.out]; simp
      have e2 : (((sloL l1).length : Int) == 0) = true := by rw [HL.out]; rfl
      clear q1
      go_enter Try.func3, Try.ntmps3
      go_wp2_with fail
      refine (trSum_any a0 l0 c0 _ h0).mono ?_
      rintro e w1 ⟨Ax, cx, rfl, ox, bw1⟩
      replace h0 := h0.below bw1
      replace h1 := h1.below bw1
      replace hb := below_trans hb bw1
      have hx := Ints.of_own ox
      clear bw1 ox
      go_wp2_with fail
      refine (refTrace_any a0 l0 c0 _ h0).mono ?_
      rintro e w' ⟨rfl, rfl⟩
      go_wp2_with fail
      refine (trCheck_any a0 l0 c0 _ h0).mono ?_
      rintro e w' ⟨rfl, rfl⟩
      go_wp2_with fail
      refine (slots_any a1 l1 c1 _ h1).mono ?_
      rintro e w4 ⟨Az, cz, rfl, oz, bw4⟩
      replace h1 := h1.below bw4
      replace hb := below_trans hb bw4
      have hz := Ints.of_own oz
      clear bw4 oz
      go_wp2_with fail
      refine (refCurve_any a1 l1 c1 _ h1).mono ?_
      rintro e w' ⟨rfl, rfl⟩
      go_wp2
      go_ret
      exact ⟨rfl, hb⟩

end Go.Proofs.Ytaopeofcmnckfaa
