
/-
  The walk of the law LineWaits.
-/
import Derived.Test.YtifmefachdfmjaaLineA
namespace Go.Proofs.Ytifmefachdfmjaa
set_option linter.all false
open Go.RowKit Go.Shelf


set_option maxRecDepth 100000 in
set_option maxHeartbeats 3200000 in
theorem walk_LineWaits (a0 : Option Addr) (c0 : Nat) (l0 : List Int) (n : Int) (w : World)
    (h0 : Ints w a0 l0) (k0 : l0.length ≤ c0) (_hn : (Lit.int .i64 n).wf = true) :
    Calls Try.prog 4 #[.slice a0 l0.length c0, .int .i64 n] w fun e w' => e = .returned (.bool true) ∧ Below w.heap.size w w' := by
  have hb : Below w.heap.size w w := Below.refl _ _
  clear _hn
  by_cases hE : linE l0 n = 0
  · obtain ⟨v, r0, r1⟩ := lin_ok hE
    have HE := Lib.hid hE
    have hle := v.le
    have kl : ((l0.length + 1 : Nat) : Int) = (l0.length : Int) + 1 := by omega
    clear hE
    go_enter Try.func4, Try.ntmps4
    go_wp2_with fail
    refine (lrun_yes _ [5, 0, 1] [2, 2, 2] [3, 1, 0] _ 3 _ 2 _ (Lib.hid (by decide)) (Lib.hid (by decide)) (Lib.hid (by decide)) (by exact Ints.lit _ [5, 0, 1] _ _ rfl (by decide)) rfl rfl).mono ?_
    rintro e w1 ⟨Ax, cx, Ay, cy, rfl, hx, hy, kx, ky, bw1⟩
    replace bw1 := below_of1 bw1
    replace h0 := h0.below bw1
    replace hb := below_trans hb bw1
    clear bw1
    go_wp2_with fail
    refine (equal_at Ax _ [2, 2, 2] [2, 2, 2] _ _ _ _ _ (by exact Ints.alloc hx _) (by exact Ints.lit _ [2, 2, 2] _ _ rfl (by decide)) rfl rfl).mono ?_
    rintro e w2 ⟨rfl, nw2, hww2⟩
    have bw2 := below_of_drewN hww2
    clear hww2
    replace bw2 := below_of1 bw2
    replace h0 := h0.below bw2
    replace hy := hy.below bw2
    replace hb := below_trans hb bw2
    clear bw2
    rw [eqB_true rfl]
    go_wp2_with fail
    refine (equal_at Ay _ [3, 1, 0] [3, 1, 0] _ _ _ _ _ (by exact Ints.alloc hy _) (by exact Ints.lit _ [3, 1, 0] _ _ rfl (by decide)) rfl rfl).mono ?_
    rintro e w3 ⟨rfl, nw3, hww3⟩
    have bw3 := below_of_drewN hww3
    clear hww3
    replace bw3 := below_of1 bw3
    replace h0 := h0.below bw3
    replace hb := below_trans hb bw3
    clear bw3
    rw [eqB_true rfl]
    clear hx hy kx ky
    go_wp2_with fail
    refine (lrun_yes a0 l0 (goL l0 n) (waL l0 n) _ l0.length c0 n _ HE (Lib.hid rfl) (Lib.hid rfl) h0 rfl rfl).mono ?_
    rintro e w4 ⟨Ax, cx, Ay, cy, rfl, hx, hy, kx, ky, bw4⟩
    replace h0 := h0.below bw4
    replace hb := below_trans hb bw4
    clear bw4
    go_wp2_with fail
    refine (sum_yes' a0 l0 (adL l0) _ (l0.length + 1) c0 _ v (Lib.hid rfl) h0 rfl rfl).mono ?_
    rintro e w5 ⟨Af, cf, rfl, hf, kf, bw5⟩
    replace h0 := h0.below bw5
    replace hy := hy.below bw5
    replace hb := below_trans hb bw5
    clear bw5
    go_wp2
    go_loopw [66] (fun i wr => ∃ k nd : Nat, k ≤ l0.length ∧ i = .int .i64 k ∧ wr = w5.drewN nd) (fun i _ => l0.length - (intOf i).toNat)
    case atStart => exact ⟨0, 0, Nat.zero_le _, rfl, rfl⟩
    case round =>
      obtain ⟨t, nd, hk, rfl, rfl⟩ := hrel
      by_cases hlt : t < l0.length
      · obtain ⟨b2, o2, y, e2, hc2, HY⟩ := hy.at_ (k := t) (by rw [length_waL]; exact hlt)
        obtain ⟨b1, o1, F, e1, hc1, HF⟩ := hf.at_ (k := t + 1) (by rw [length_adL]; omega)
        subst e1 e2
        have hy' := gt_of_get HY.out
        rw [gt_waL hlt] at hy'
        have hF := gt_of_get HF.out
        rw [gt_adL (by omega)] at hF
        have F0 : 0 ≤ F := by rw [← hF]; exact (sum_lo v (t + 1) (by omega)).1
        have F1 : F ≤ 600000 := by rw [← hF]; have := (sum_lo v (t + 1) (by omega)).2; omega
        have i1 : (t : Int) < (l0.length : Int) := by omega
        have i2 : (t : Int) + 1 < (l0.length : Int) + 1 := by omega
        have HYV : Hid (waV l0 n (t + 1) = y) := Lib.hid hy'
        have HFV : Hid (sumV l0 (t + 1) = F) := Lib.hid hF
        clear hy' hF
        go_wp2
        go_loopw [14, 15, 71] (fun m h i wi => ∃ s nd : Nat, s ≤ t + 2 ∧ i = .int .i64 s ∧ m = .int .i64 (mx (linV l0 n (t + 1)) s) ∧ h = .bool (hiB (linV l0 n (t + 1)) y s) ∧ wi = w5.drewN nd) (fun _ _ i _ => t + 2 - (intOf i).toNat)
        case atStart => exact ⟨0, nd, Nat.zero_le _, rfl, rfl, rfl, rfl⟩
        case round =>
          obtain ⟨s, nd, hs, rfl, rfl, rfl, rfl⟩ := hrel
          by_cases hst : s < t + 2
          · obtain ⟨b3, o3, x, e3, hc3, HX⟩ := hf.at_ (k := s) (by rw [length_adL]; omega)
            obtain ⟨rfl, rfl⟩ : b3 = b1 ∧ o3 = o1 := by injection e3 with e1; injection e1 with e1 e2; exact ⟨e1.symm, e2.symm⟩
            clear e3
            have hx' := gt_of_get HX.out
            rw [gt_adL (by omega)] at hx'
            have x0 : 0 ≤ x := by rw [← hx']; exact (sum_lo v s (by omega)).1
            have x1 : x ≤ 600000 := by rw [← hx']; have := (sum_lo v s (by omega)).2; omega
            obtain ⟨m, hm⟩ : ∃ m, m = mx (linV l0 n (t + 1)) s := ⟨_, rfl⟩
            obtain ⟨H, hH⟩ : ∃ H, H = hiB (linV l0 n (t + 1)) y s := ⟨_, rfl⟩
            obtain ⟨P, hP⟩ : ∃ P, P = n * ((t : Int) + 1 - (s : Int)) := ⟨_, rfl⟩
            rw [← hm, ← hH]
            have P0 : 0 ≤ P := by rw [hP]; exact Int.mul_nonneg r0 (by omega)
            have P1 : P ≤ 600000 := by rw [hP]; have := Int.mul_le_mul r1 (show (t : Int) + 1 - (s : Int) ≤ 60 by omega) (by omega) (by omega); omega
            have hD : linV l0 n (t + 1) s = F - x - P := by rw [linV, HFV.out, hx', hP, show ((t + 1 : Nat) : Int) = (t : Int) + 1 by omega]
            have HM : Hid (mx (linV l0 n (t + 1)) (s + 1) = max m (F - x - P)) := Lib.hid (by rw [mx, ← hm, hD])
            have HHB : Hid (hiB (linV l0 n (t + 1)) y (s + 1) = (H || (F - x - P == y))) := Lib.hid (by rw [hiB, ← hH, hD])
            have m0 : 0 ≤ m := by rw [hm]; exact mx0 _ _
            have m1 : m ≤ 600000 := by
              rw [hm]
              exact (mx_iff _ _ (by omega) _).2 (fun i hi => (lin_bd v r0 r1 (by omega) (by omega)).2)
            have s0 : IntKind.i64.wrap ((t : Int) + 1) = (t : Int) + 1 := IntWalk.i64_in _ ⟨by omega, by omega⟩
            have s1 : IntKind.i64.wrap ((t : Int) + 1 - (s : Int)) = (t : Int) + 1 - (s : Int) := IntWalk.i64_in _ ⟨by omega, by omega⟩
            have s2 : IntKind.i64.wrap (n * ((t : Int) + 1 - (s : Int))) = P := by rw [← hP]; exact IntWalk.i64_in _ ⟨by omega, by omega⟩
            have s3 : IntKind.i64.wrap (F - x) = F - x := IntWalk.i64_in _ ⟨by omega, by omega⟩
            have s4 : IntKind.i64.wrap (F - x - P) = F - x - P := IntWalk.i64_in _ ⟨by omega, by omega⟩
            have s5 : ((t : Int) + 1).toNat = t + 1 := by omega
            have i3 : (s : Int) < (t : Int) + 2 := by omega
            have i4 : (s : Int) < (l0.length : Int) + 1 := by omega
            have z1 : (0 : Int) ≤ (t : Int) + 1 := by omega
            clear hx' hP hD hm hH
            cases H
            · by_cases hxy : F - x - P = y
              · have t1 : (F - x - P == y) = true := by simp [hxy]
                have HH : Hid (hiB (linV l0 n (t + 1)) y (s + 1) = true) := Lib.hid (by rw [HHB.out, t1]; rfl)
                clear hxy HHB
                rcases Int.lt_trichotomy m (F - x - P) with q | q | q
                all_goals
                  go_wp2
                  go_quiet (fail)
                  go_wp2
                  go_roundw
                  case rel => exact ⟨s + 1, nd + nq, by omega, by go_num, by rw [HM.out]; congr 1; omega, by rw [HH.out], by simp [World.drewN, Nat.add_assoc]⟩
                  case measure => simp [intOf]; omega
              · have t1 : (F - x - P == y) = false := by simp [hxy]
                have HH : Hid (hiB (linV l0 n (t + 1)) y (s + 1) = false) := Lib.hid (by rw [HHB.out, t1]; rfl)
                clear hxy HHB
                rcases Int.lt_trichotomy m (F - x - P) with q | q | q
                all_goals
                  go_wp2
                  go_quiet (fail)
                  go_wp2
                  go_roundw
                  case rel => exact ⟨s + 1, nd + nq, by omega, by go_num, by rw [HM.out]; congr 1; omega, by rw [HH.out], by simp [World.drewN, Nat.add_assoc]⟩
                  case measure => simp [intOf]; omega
            · have HH : Hid (hiB (linV l0 n (t + 1)) y (s + 1) = true) := Lib.hid (by rw [HHB.out]; rfl)
              clear HHB
              rcases Int.lt_trichotomy m (F - x - P) with q | q | q
              all_goals
                go_wp2
                go_quiet (fail)
                go_wp2
                go_roundw
                case rel => exact ⟨s + 1, nd + nq, by omega, by go_num, by rw [HM.out]; congr 1; omega, by rw [HH.out], by simp [World.drewN, Nat.add_assoc]⟩
                case measure => simp [intOf]; omega
          · obtain rfl : s = t + 2 := by omega
            have HM : Hid (mx (linV l0 n (t + 1)) (t + 2) = y) := Lib.hid (by rw [← HYV.out]; exact lin_mx _ _ _)
            have HH : Hid (hiB (linV l0 n (t + 1)) y (t + 2) = true) := Lib.hid (by
              obtain ⟨s, hs, e⟩ := lin_at l0 n (t + 1)
              exact hi_at (by rw [e, HYV.out]) _ (by omega))
            have t1 : (y != y) = false := by simp
            have i3 : ¬ ((t + 2 : Nat) : Int) < (t : Int) + 2 := by omega
            rw [HM.out, HH.out]
            go_wp2
            go_roundw
            case rel => exact ⟨t + 1, nd, by omega, by go_num, rfl⟩
            case measure => simp [intOf]; omega
      · go_wp2
        go_ret
        exact ⟨rfl, below_trans hb (below_of_drewN rfl)⟩
  · have e1 : (linE l0 n != 0) = true := by simp [hE]
    go_enter Try.func4, Try.ntmps4
    go_wp2_with fail
    refine (lrun_yes _ [5, 0, 1] [2, 2, 2] [3, 1, 0] _ 3 _ 2 _ (Lib.hid (by decide)) (Lib.hid (by decide)) (Lib.hid (by decide)) (by exact Ints.lit _ [5, 0, 1] _ _ rfl (by decide)) rfl rfl).mono ?_
    rintro e w1 ⟨Ax, cx, Ay, cy, rfl, hx, hy, kx, ky, bw1⟩
    replace bw1 := below_of1 bw1
    replace h0 := h0.below bw1
    replace hb := below_trans hb bw1
    clear bw1
    go_wp2_with fail
    refine (equal_at Ax _ [2, 2, 2] [2, 2, 2] _ _ _ _ _ (by exact Ints.alloc hx _) (by exact Ints.lit _ [2, 2, 2] _ _ rfl (by decide)) rfl rfl).mono ?_
    rintro e w2 ⟨rfl, nw2, hww2⟩
    have bw2 := below_of_drewN hww2
    clear hww2
    replace bw2 := below_of1 bw2
    replace h0 := h0.below bw2
    replace hy := hy.below bw2
    replace hb := below_trans hb bw2
    clear bw2
    rw [eqB_true rfl]
    go_wp2_with fail
    refine (equal_at Ay _ [3, 1, 0] [3, 1, 0] _ _ _ _ _ (by exact Ints.alloc hy _) (by exact Ints.lit _ [3, 1, 0] _ _ rfl (by decide)) rfl rfl).mono ?_
    rintro e w3 ⟨rfl, nw3, hww3⟩
    have bw3 := below_of_drewN hww3
    clear hww3
    replace bw3 := below_of1 bw3
    replace h0 := h0.below bw3
    replace hb := below_trans hb bw3
    clear bw3
    rw [eqB_true rfl]
    clear hx hy kx ky
    go_wp2_with fail
    refine (lrun_no a0 l0 c0 n _ hE h0).mono ?_
    rintro e w4 ⟨Ax, cx, Ay, cy, rfl, bx⟩
    replace h0 := h0.below bx
    replace hb := below_trans hb bx
    clear bx
    go_wp2_with fail
    refine (trSum_any a0 l0 c0 _ h0).mono ?_
    rintro e w5 ⟨Af, cf, rfl, of, bw5⟩
    replace h0 := h0.below bw5
    replace hb := below_trans hb bw5
    have hf := Ints.of_own of
    clear bw5 of
    go_wp2
    go_ret
    exact ⟨rfl, hb⟩

end Go.Proofs.Ytifmefachdfmjaa
