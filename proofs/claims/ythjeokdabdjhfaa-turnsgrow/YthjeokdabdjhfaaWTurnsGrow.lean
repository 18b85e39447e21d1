
/-
  The walk of the law TurnsGrow.
-/
import Derived.Test.YthjeokdabdjhfaaTurnsE
import Derived.Test.YthjeokdabdjhfaaCurveB
namespace Go.Proofs.Ythjeokdabdjhfaa
set_option linter.all false
open Go.RowKit Go.Shelf


set_option maxRecDepth 100000 in
set_option maxHeartbeats 3200000 in
theorem walk_TurnsGrow (a0 : Option Addr) (c0 : Nat) (l0 : List Fw) (m n : Int) (w : World)
    (h0 : Fls w a0 l0) (k0 : l0.length ≤ c0) (_hm : (Lit.int .i64 m).wf = true) (_hn : (Lit.int .i64 n).wf = true) :
    Calls Try.prog 7 #[.slice a0 l0.length c0, .int .i64 m, .int .i64 n] w fun e w' => e = .returned (.bool true) ∧ Below w.heap.size w w' := by
  have hb : Below w.heap.size w w := Below.refl _ _
  clear _hm _hn
  obtain ⟨p, hp, p1⟩ := wi_nat m 1001 (by omega)
  obtain ⟨q, hq, q1⟩ := wi_nat n 1001 (by omega)
  have HP := Lib.hid hp
  have HQ := Lib.hid hq
  clear hp hq
  have LF := Lib.hid (length_fls l0)
  go_enter Try.func7, Try.ntmps7
  go_wp2_with fail
  refine (flow_any 1 _ _ _ _).mono ?_
  rintro e w1 ⟨rfl, bw1⟩
  have zw1 := Ints.below (l := [1000]) (Ints.lit _ [1000] _ _ rfl (by decide)) bw1
  replace bw1 := below_of1 bw1
  replace h0 := h0.below bw1
  replace hb := below_trans hb bw1
  go_wp2_with fail
  refine (aft_at _ [⟨1, _, _, [1000]⟩] [1000] _ _ 1000 _ _ (by exact Fls.lit1 _ _ _ _ _ [1000] _ zw1 rfl (by decide)) (Lib.hid (by show flE [⟨1, [1000]⟩] = 0; decide)) (by omega) (Lib.hid (by show aftL [⟨1, [1000]⟩] 1000 = [1000]; decide)) rfl rfl).mono ?_
  rintro e w2 ⟨Ax, cx, rfl, ox, bw2⟩
  replace bw2 := below_of1 bw2
  replace h0 := h0.below bw2
  replace hb := below_trans hb bw2
  have hx := Ints.of_own ox
  clear bw2 ox
  go_wp2_with fail
  refine (equal_at Ax _ [1000] [1000] _ _ _ _ _ (by exact Ints.alloc hx _) (by exact Ints.lit _ [1000] _ _ rfl (by decide)) rfl rfl).mono ?_
  rintro e w3 ⟨rfl, nw3, hww3⟩
  have bw3 := below_of_drewN hww3
  clear hww3
  replace bw3 := below_of1 bw3
  replace h0 := h0.below bw3
  replace hb := below_trans hb bw3
  clear bw3
  rw [eqB_true rfl]
  clear hx zw1 bw1
  go_wp2_with fail
  refine (within_any m 1001 _ (by omega) (by omega)).mono ?_
  rintro e w' ⟨rfl, rfl⟩
  rw [HP.out]
  go_wp2_with fail
  refine (within_any n 1001 _ (by omega) (by omega)).mono ?_
  rintro e w' ⟨rfl, rfl⟩
  rw [HQ.out]
  by_cases hE : flE (fls l0) = 0
  · have v := flE_iff.1 hE
    have HE := Lib.hid hE
    have h8 : l0.length ≤ 8 := by have := v.le; rwa [length_fls] at this
    have MO : Hid (∀ k, k < l0.length → ∀ a b : Nat, a ≤ b → sumV (flw (fls l0) k).z ((flw (fls l0) k).cn a) ≤ sumV (flw (fls l0) k).z ((flw (fls l0) k).cn b)) := Lib.hid (fun k hk a b hab => by
      have ok := v.ok k (by rw [length_fls]; exact hk)
      exact ok.sz.mono (cn_up ok hab) (cn_le _ _))
    clear hE
    rcases Nat.lt_trichotomy p q with c | c | c
    · go_wp2_with fail
      refine (aft_at a0 l0 (aftL (fls l0) p) _ c0 p _ _ h0 HE (by omega) (Lib.hid rfl) rfl rfl).mono ?_
      rintro e w4 ⟨Ax, cx, rfl, ox, bw4⟩
      replace h0 := h0.below bw4
      replace hb := below_trans hb bw4
      have hx := Ints.of_own ox
      clear bw4 ox
      rw [length_aftL, LF.out]
      go_wp2_with fail
      refine (aft_at a0 l0 (aftL (fls l0) q) _ c0 q _ _ h0 HE (by omega) (Lib.hid rfl) rfl rfl).mono ?_
      rintro e w5 ⟨Ay, cy, rfl, oy, bw5⟩
      replace hx := hx.below bw5
      replace hb := below_trans hb bw5
      have hy := Ints.of_own oy
      clear bw5 oy
      rw [length_aftL, LF.out]
      go_wp2
      go_loopw [79] (fun i wr => ∃ k nd : Nat, k ≤ l0.length ∧ i = .int .i64 k ∧ wr = w5.drewN nd) (fun i _ => l0.length - (intOf i).toNat)
      case atStart => exact ⟨0, 0, Nat.zero_le _, rfl, rfl⟩
      case round =>
        obtain ⟨k, nd, hk, rfl, rfl⟩ := hrel
        by_cases hlt : k < l0.length
        · obtain ⟨b1, o1, x, e1, hc1, HX⟩ := hx.at_ (k := k) (by rw [length_aftL, LF.out]; exact hlt)
          obtain ⟨b2, o2, y, e2, hc2, HY⟩ := hy.at_ (k := k) (by rw [length_aftL, LF.out]; exact hlt)
          subst e1 e2
          have hx' := gt_of_get HX.out
          have hy' := gt_of_get HY.out
          rw [gt_aftL (by rw [LF.out]; exact hlt)] at hx' hy'
          have hxy : x ≤ y := by rw [← hx', ← hy']; exact MO.out k hlt p q (by omega)
          have t1 : decide (y < x) = false := decide_eq_false (by omega)
          have i1 : (k : Int) < (l0.length : Int) := by omega
          clear hx' hy' hxy
          go_wp2
          go_quiet (fail)
          go_wp2
          go_roundw
          case rel => exact ⟨k + 1, nd + nq, by omega, by go_num, by simp [World.drewN, Nat.add_assoc]⟩
          case measure => simp [intOf]; omega
        · go_wp2
          go_ret
          exact ⟨rfl, below_trans hb (below_of_drewN rfl)⟩
    · subst c
      · go_wp2_with fail
        refine (aft_at a0 l0 (aftL (fls l0) p) _ c0 p _ _ h0 HE (by omega) (Lib.hid rfl) rfl rfl).mono ?_
        rintro e w4 ⟨Ax, cx, rfl, ox, bw4⟩
        replace h0 := h0.below bw4
        replace hb := below_trans hb bw4
        have hx := Ints.of_own ox
        clear bw4 ox
        rw [length_aftL, LF.out]
        go_wp2_with fail
        refine (aft_at a0 l0 (aftL (fls l0) p) _ c0 p _ _ h0 HE (by omega) (Lib.hid rfl) rfl rfl).mono ?_
        rintro e w5 ⟨Ay, cy, rfl, oy, bw5⟩
        replace hx := hx.below bw5
        replace hb := below_trans hb bw5
        have hy := Ints.of_own oy
        clear bw5 oy
        rw [length_aftL, LF.out]
        go_wp2
        go_loopw [79] (fun i wr => ∃ k nd : Nat, k ≤ l0.length ∧ i = .int .i64 k ∧ wr = w5.drewN nd) (fun i _ => l0.length - (intOf i).toNat)
        case atStart => exact ⟨0, 0, Nat.zero_le _, rfl, rfl⟩
        case round =>
          obtain ⟨k, nd, hk, rfl, rfl⟩ := hrel
          by_cases hlt : k < l0.length
          · obtain ⟨b1, o1, x, e1, hc1, HX⟩ := hx.at_ (k := k) (by rw [length_aftL, LF.out]; exact hlt)
            obtain ⟨b2, o2, y, e2, hc2, HY⟩ := hy.at_ (k := k) (by rw [length_aftL, LF.out]; exact hlt)
            subst e1 e2
            have hx' := gt_of_get HX.out
            have hy' := gt_of_get HY.out
            rw [gt_aftL (by rw [LF.out]; exact hlt)] at hx' hy'
            have hxy : x ≤ y := by rw [← hx', ← hy']; exact MO.out k hlt p p (by omega)
            have t1 : decide (y < x) = false := decide_eq_false (by omega)
            have i1 : (k : Int) < (l0.length : Int) := by omega
            clear hx' hy' hxy
            go_wp2
            go_quiet (fail)
            go_wp2
            go_roundw
            case rel => exact ⟨k + 1, nd + nq, by omega, by go_num, by simp [World.drewN, Nat.add_assoc]⟩
            case measure => simp [intOf]; omega
          · go_wp2
            go_ret
            exact ⟨rfl, below_trans hb (below_of_drewN rfl)⟩
    · go_wp2_with fail
      refine (aft_at a0 l0 (aftL (fls l0) q) _ c0 q _ _ h0 HE (by omega) (Lib.hid rfl) rfl rfl).mono ?_
      rintro e w4 ⟨Ax, cx, rfl, ox, bw4⟩
      replace h0 := h0.below bw4
      replace hb := below_trans hb bw4
      have hx := Ints.of_own ox
      clear bw4 ox
      rw [length_aftL, LF.out]
      go_wp2_with fail
      refine (aft_at a0 l0 (aftL (fls l0) p) _ c0 p _ _ h0 HE (by omega) (Lib.hid rfl) rfl rfl).mono ?_
      rintro e w5 ⟨Ay, cy, rfl, oy, bw5⟩
      replace hx := hx.below bw5
      replace hb := below_trans hb bw5
      have hy := Ints.of_own oy
      clear bw5 oy
      rw [length_aftL, LF.out]
      go_wp2
      go_loopw [79] (fun i wr => ∃ k nd : Nat, k ≤ l0.length ∧ i = .int .i64 k ∧ wr = w5.drewN nd) (fun i _ => l0.length - (intOf i).toNat)
      case atStart => exact ⟨0, 0, Nat.zero_le _, rfl, rfl⟩
      case round =>
        obtain ⟨k, nd, hk, rfl, rfl⟩ := hrel
        by_cases hlt : k < l0.length
        · obtain ⟨b1, o1, x, e1, hc1, HX⟩ := hx.at_ (k := k) (by rw [length_aftL, LF.out]; exact hlt)
          obtain ⟨b2, o2, y, e2, hc2, HY⟩ := hy.at_ (k := k) (by rw [length_aftL, LF.out]; exact hlt)
          subst e1 e2
          have hx' := gt_of_get HX.out
          have hy' := gt_of_get HY.out
          rw [gt_aftL (by rw [LF.out]; exact hlt)] at hx' hy'
          have hxy : x ≤ y := by rw [← hx', ← hy']; exact MO.out k hlt q p (by omega)
          have t1 : decide (y < x) = false := decide_eq_false (by omega)
          have i1 : (k : Int) < (l0.length : Int) := by omega
          clear hx' hy' hxy
          go_wp2
          go_quiet (fail)
          go_wp2
          go_roundw
          case rel => exact ⟨k + 1, nd + nq, by omega, by go_num, by simp [World.drewN, Nat.add_assoc]⟩
          case measure => simp [intOf]; omega
        · go_wp2
          go_ret
          exact ⟨rfl, below_trans hb (below_of_drewN rfl)⟩
  · have e1 : (flE (fls l0) != 0) = true := by simp [hE]
    have e2 : (flE (fls l0) == flE (fls l0)) = true := by simp
    rcases Nat.lt_trichotomy p q with c | c | c
    · go_wp2_with fail
      refine (aft_no a0 l0 c0 p _ h0 hE).mono ?_
      rintro e w4 ⟨Ax, cx, rfl, ox, bw4⟩
      replace h0 := h0.below bw4
      replace hb := below_trans hb bw4
      have hx := Ints.of_own ox
      clear bw4 ox
      go_wp2_with fail
      refine (aft_no a0 l0 c0 q _ h0 hE).mono ?_
      rintro e w5 ⟨Ay, cy, rfl, oy, bw5⟩
      replace hb := below_trans hb bw5
      have hy := Ints.of_own oy
      clear bw5 oy
      go_wp2
      go_ret
      exact ⟨rfl, hb⟩
    · subst c
      go_wp2_with fail
      refine (aft_no a0 l0 c0 p _ h0 hE).mono ?_
      rintro e w4 ⟨Ax, cx, rfl, ox, bw4⟩
      replace h0 := h0.below bw4
      replace hb := below_trans hb bw4
      have hx := Ints.of_own ox
      clear bw4 ox
      go_wp2_with fail
      refine (aft_no a0 l0 c0 p _ h0 hE).mono ?_
      rintro e w5 ⟨Ay, cy, rfl, oy, bw5⟩
      replace hb := below_trans hb bw5
      have hy := Ints.of_own oy
      clear bw5 oy
      go_wp2
      go_ret
      exact ⟨rfl, hb⟩
    · go_wp2_with fail
      refine (aft_no a0 l0 c0 q _ h0 hE).mono ?_
      rintro e w4 ⟨Ax, cx, rfl, ox, bw4⟩
      replace h0 := h0.below bw4
      replace hb := below_trans hb bw4
      have hx := Ints.of_own ox
      clear bw4 ox
      go_wp2_with fail
      refine (aft_no a0 l0 c0 p _ h0 hE).mono ?_
      rintro e w5 ⟨Ay, cy, rfl, oy, bw5⟩
      replace hb := below_trans hb bw5
      have hy := Ints.of_own oy
      clear bw5 oy
      go_wp2
      go_ret
      exact ⟨rfl, hb⟩

end Go.Proofs.Ythjeokdabdjhfaa
