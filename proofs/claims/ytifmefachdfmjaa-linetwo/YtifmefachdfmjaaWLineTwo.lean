
/-
  The walk of the law LineTwo.
-/
import Derived.Test.YtifmefachdfmjaaLineA
import Derived.Test.YtifmefachdfmjaaShapeK
namespace Go.Proofs.Ytifmefachdfmjaa
set_option linter.all false
open Go.RowKit Go.Shelf



set_option maxHeartbeats 3200000 in
theorem walk_LineTwo (a0 : Option Addr) (c0 : Nat) (l0 : List Int) (m n : Int) (w : World)
    (h0 : Ints w a0 l0) (k0 : l0.length ≤ c0) (_hm : (Lit.int .i64 m).wf = true) (_hn : (Lit.int .i64 n).wf = true) :
    Calls Try.prog 6 #[.slice a0 l0.length c0, .int .i64 m, .int .i64 n] w fun e w' => e = .returned (.bool true) ∧ Below w.heap.size w w' := by
  have hb : Below w.heap.size w w := Below.refl _ _
  obtain ⟨R, hR⟩ : ∃ y, y = wi m 10001 := ⟨_, rfl⟩
  have Rlo : 0 ≤ R := by rw [hR]; exact wi_nonneg _ _ (by omega)
  have Rhi : R < 10001 := by rw [hR]; exact wi_lt m 10001 (by omega)
  have HR := Lib.hid hR
  clear hR
  obtain ⟨S, hS⟩ : ∃ y, y = wi n 10001 := ⟨_, rfl⟩
  have Slo : 0 ≤ S := by rw [hS]; exact wi_nonneg _ _ (by omega)
  have Shi : S < 10001 := by rw [hS]; exact wi_lt n 10001 (by omega)
  have HS := Lib.hid hS
  clear hS
  by_cases hE : linE l0 R = 0
  · obtain ⟨v, _, _⟩ := lin_ok hE
    have HE := Lib.hid hE
    have hle := v.le
    have HT : Hid (linE (goL l0 R) S = 0) := Lib.hid (lin_of (tr_go v Rlo (by omega)) Slo (by omega))
    have HL : Hid ((goL l0 R).length = l0.length) := Lib.hid (length_goL _ _)
    rcases Int.lt_trichotomy R S with c | c | c
    · have HN : Hid (linE l0 R = 0) := Lib.hid (lin_of v (by omega) (by omega))
      have HG : Hid (goL (goL l0 R) S = goL l0 R) := Lib.hid (by rw [line_two Rlo (by omega), show min R S = R by omega])
      clear hE
      go_enter Try.func6, Try.ntmps6
      go_wp2_with fail
      refine (lrun_yes _ [5, 0] [3, 2] [2, 0] _ 2 _ 3 _ (Lib.hid (by decide)) (Lib.hid (by decide)) (Lib.hid (by decide)) (by exact Ints.lit _ [5, 0] _ _ rfl (by decide)) rfl rfl).mono ?_
      rintro e w1 ⟨Ax, cx, Ay, cy, rfl, hx, hy, kx, ky, bw1⟩
      replace bw1 := below_of1 bw1
      replace h0 := h0.below bw1
      replace hb := below_trans hb bw1
      clear bw1
      go_wp2_with fail
      refine (equal_at Ax _ [3, 2] [3, 2] _ _ _ _ _ (by exact Ints.alloc hx _) (by exact Ints.lit _ [3, 2] _ _ rfl (by decide)) rfl rfl).mono ?_
      rintro e w2 ⟨rfl, nw2, hww2⟩
      have bw2 := below_of_drewN hww2
      clear hww2
      replace bw2 := below_of1 bw2
      replace h0 := h0.below bw2
      replace hb := below_trans hb bw2
      clear bw2
      rw [eqB_true rfl]
      clear hx hy kx ky
      go_wp2_with fail
      refine (within_any m 10001 _ (by omega) (by omega)).mono ?_
      rintro e w' ⟨rfl, rfl⟩
      rw [← HR.out]
      go_wp2_with fail
      refine (within_any n 10001 _ (by omega) (by omega)).mono ?_
      rintro e w' ⟨rfl, rfl⟩
      rw [← HS.out]
      go_wp2_with fail
      refine (lrun_yes a0 l0 (goL l0 R) (waL l0 R) _ l0.length c0 R _ HE (Lib.hid rfl) (Lib.hid rfl) h0 rfl rfl).mono ?_
      rintro e w3 ⟨Ax, cx, Au, cu, rfl, hx, hu, kx, ku, bw3⟩
      replace h0 := h0.below bw3
      replace hb := below_trans hb bw3
      clear bw3
      go_wp2_with fail
      refine (lrun_yes Ax (goL l0 R) (goL l0 R) (waL (goL l0 R) S) _ l0.length _ S _ HT HG (Lib.hid rfl) hx HL.out.symm HL.out.symm).mono ?_
      rintro e w4 ⟨Ay, cy, Ap, cp, rfl, hy, hp, ky, kp, bw4⟩
      replace h0 := h0.below bw4
      replace hb := below_trans hb bw4
      clear bw4
      go_wp2_with fail
      refine (lrun_yes a0 l0 (goL l0 R) (waL l0 R) _ l0.length c0 R _ HN (Lib.hid rfl) (Lib.hid rfl) h0 rfl rfl).mono ?_
      rintro e w5 ⟨Az, cz, Aq, cq, rfl, hz, hq, kz, kq, bw5⟩
      replace hy := hy.below bw5
      replace hb := below_trans hb bw5
      clear bw5
      go_wp2_with fail
      refine (equal_at Ay Az (goL l0 R) (goL l0 R) _ _ _ _ _ hy hz (length_goL _ _).symm (length_goL _ _).symm).mono ?_
      rintro e w6 ⟨rfl, nw6, hww6⟩
      have bw6 := below_of_drewN hww6
      clear hww6
      replace hb := below_trans hb bw6
      clear bw6
      rw [eqB_true rfl]
      go_wp2
      go_ret
      exact ⟨rfl, hb⟩
    · subst c
      have HN : Hid (linE l0 R = 0) := Lib.hid (lin_of v (by omega) (by omega))
      have HG : Hid (goL (goL l0 R) R = goL l0 R) := Lib.hid (by rw [line_two Rlo (by omega), show min R R = R by omega])
      clear hE
      go_enter Try.func6, Try.ntmps6
      go_wp2_with fail
      refine (lrun_yes _ [5, 0] [3, 2] [2, 0] _ 2 _ 3 _ (Lib.hid (by decide)) (Lib.hid (by decide)) (Lib.hid (by decide)) (by exact Ints.lit _ [5, 0] _ _ rfl (by decide)) rfl rfl).mono ?_
      rintro e w1 ⟨Ax, cx, Ay, cy, rfl, hx, hy, kx, ky, bw1⟩
      replace bw1 := below_of1 bw1
      replace h0 := h0.below bw1
      replace hb := below_trans hb bw1
      clear bw1
      go_wp2_with fail
      refine (equal_at Ax _ [3, 2] [3, 2] _ _ _ _ _ (by exact Ints.alloc hx _) (by exact Ints.lit _ [3, 2] _ _ rfl (by decide)) rfl rfl).mono ?_
      rintro e w2 ⟨rfl, nw2, hww2⟩
      have bw2 := below_of_drewN hww2
      clear hww2
      replace bw2 := below_of1 bw2
      replace h0 := h0.below bw2
      replace hb := below_trans hb bw2
      clear bw2
      rw [eqB_true rfl]
      clear hx hy kx ky
      go_wp2_with fail
      refine (within_any m 10001 _ (by omega) (by omega)).mono ?_
      rintro e w' ⟨rfl, rfl⟩
      rw [← HR.out]
      go_wp2_with fail
      refine (within_any n 10001 _ (by omega) (by omega)).mono ?_
      rintro e w' ⟨rfl, rfl⟩
      rw [← HS.out]
      go_wp2_with fail
      refine (lrun_yes a0 l0 (goL l0 R) (waL l0 R) _ l0.length c0 R _ HE (Lib.hid rfl) (Lib.hid rfl) h0 rfl rfl).mono ?_
      rintro e w3 ⟨Ax, cx, Au, cu, rfl, hx, hu, kx, ku, bw3⟩
      replace h0 := h0.below bw3
      replace hb := below_trans hb bw3
      clear bw3
      go_wp2_with fail
      refine (lrun_yes Ax (goL l0 R) (goL l0 R) (waL (goL l0 R) R) _ l0.length _ R _ HT HG (Lib.hid rfl) hx HL.out.symm HL.out.symm).mono ?_
      rintro e w4 ⟨Ay, cy, Ap, cp, rfl, hy, hp, ky, kp, bw4⟩
      replace h0 := h0.below bw4
      replace hb := below_trans hb bw4
      clear bw4
      go_wp2_with fail
      refine (lrun_yes a0 l0 (goL l0 R) (waL l0 R) _ l0.length c0 R _ HN (Lib.hid rfl) (Lib.hid rfl) h0 rfl rfl).mono ?_
      rintro e w5 ⟨Az, cz, Aq, cq, rfl, hz, hq, kz, kq, bw5⟩
      replace hy := hy.below bw5
      replace hb := below_trans hb bw5
      clear bw5
      go_wp2_with fail
      refine (equal_at Ay Az (goL l0 R) (goL l0 R) _ _ _ _ _ hy hz (length_goL _ _).symm (length_goL _ _).symm).mono ?_
      rintro e w6 ⟨rfl, nw6, hww6⟩
      have bw6 := below_of_drewN hww6
      clear hww6
      replace hb := below_trans hb bw6
      clear bw6
      rw [eqB_true rfl]
      go_wp2
      go_ret
      exact ⟨rfl, hb⟩
    · have HN : Hid (linE l0 S = 0) := Lib.hid (lin_of v (by omega) (by omega))
      have HG : Hid (goL (goL l0 R) S = goL l0 S) := Lib.hid (by rw [line_two Rlo (by omega), show min R S = S by omega])
      clear hE
      go_enter Try.func6, Try.ntmps6
      go_wp2_with fail
      refine (lrun_yes _ [5, 0] [3, 2] [2, 0] _ 2 _ 3 _ (Lib.hid (by decide)) (Lib.hid (by decide)) (Lib.hid (by decide)) (by exact Ints.lit _ [5, 0] _ _ rfl (by decide)) rfl rfl).mono ?_
      rintro e w1 ⟨Ax, cx, Ay, cy, rfl, hx, hy, kx, ky, bw1⟩
      replace bw1 := below_of1 bw1
      replace h0 := h0.below bw1
      replace hb := below_trans hb bw1
      clear bw1
      go_wp2_with fail
      refine (equal_at Ax _ [3, 2] [3, 2] _ _ _ _ _ (by exact Ints.alloc hx _) (by exact Ints.lit _ [3, 2] _ _ rfl (by decide)) rfl rfl).mono ?_
      rintro e w2 ⟨rfl, nw2, hww2⟩
      have bw2 := below_of_drewN hww2
      clear hww2
      replace bw2 := below_of1 bw2
      replace h0 := h0.below bw2
      replace hb := below_trans hb bw2
      clear bw2
      rw [eqB_true rfl]
      clear hx hy kx ky
      go_wp2_with fail
      refine (within_any m 10001 _ (by omega) (by omega)).mono ?_
      rintro e w' ⟨rfl, rfl⟩
      rw [← HR.out]
      go_wp2_with fail
      refine (within_any n 10001 _ (by omega) (by omega)).mono ?_
      rintro e w' ⟨rfl, rfl⟩
      rw [← HS.out]
      go_wp2_with fail
      refine (lrun_yes a0 l0 (goL l0 R) (waL l0 R) _ l0.length c0 R _ HE (Lib.hid rfl) (Lib.hid rfl) h0 rfl rfl).mono ?_
      rintro e w3 ⟨Ax, cx, Au, cu, rfl, hx, hu, kx, ku, bw3⟩
      replace h0 := h0.below bw3
      replace hb := below_trans hb bw3
      clear bw3
      go_wp2_with fail
      refine (lrun_yes Ax (goL l0 R) (goL l0 S) (waL (goL l0 R) S) _ l0.length _ S _ HT HG (Lib.hid rfl) hx HL.out.symm HL.out.symm).mono ?_
      rintro e w4 ⟨Ay, cy, Ap, cp, rfl, hy, hp, ky, kp, bw4⟩
      replace h0 := h0.below bw4
      replace hb := below_trans hb bw4
      clear bw4
      go_wp2_with fail
      refine (lrun_yes a0 l0 (goL l0 S) (waL l0 S) _ l0.length c0 S _ HN (Lib.hid rfl) (Lib.hid rfl) h0 rfl rfl).mono ?_
      rintro e w5 ⟨Az, cz, Aq, cq, rfl, hz, hq, kz, kq, bw5⟩
      replace hy := hy.below bw5
      replace hb := below_trans hb bw5
      clear bw5
      go_wp2_with fail
      refine (equal_at Ay Az (goL l0 S) (goL l0 S) _ _ _ _ _ hy hz (length_goL _ _).symm (length_goL _ _).symm).mono ?_
      rintro e w6 ⟨rfl, nw6, hww6⟩
      have bw6 := below_of_drewN hww6
      clear hww6
      replace hb := below_trans hb bw6
      clear bw6
      rw [eqB_true rfl]
      go_wp2
      go_ret
      exact ⟨rfl, hb⟩
  · have e1 : (linE l0 R != 0) = true := by simp [hE]
    have e2 : linE l0 R = trk l0 := by
      unfold linE
      by_cases q : trk l0 = 0
      · rw [if_neg (by simpa using q), if_neg (by omega), q]
      · rw [if_pos q]
    have e3 : (linE l0 R == trk l0) = true := by simp [e2]
    clear e2
    go_enter Try.func6, Try.ntmps6
    go_wp2_with fail
    refine (lrun_yes _ [5, 0] [3, 2] [2, 0] _ 2 _ 3 _ (Lib.hid (by decide)) (Lib.hid (by decide)) (Lib.hid (by decide)) (by exact Ints.lit _ [5, 0] _ _ rfl (by decide)) rfl rfl).mono ?_
    rintro e w1 ⟨Ax, cx, Ay, cy, rfl, hx, hy, kx, ky, bw1⟩
    replace bw1 := below_of1 bw1
    replace h0 := h0.below bw1
    replace hb := below_trans hb bw1
    clear bw1
    go_wp2_with fail
    refine (equal_at Ax _ [3, 2] [3, 2] _ _ _ _ _ (by exact Ints.alloc hx _) (by exact Ints.lit _ [3, 2] _ _ rfl (by decide)) rfl rfl).mono ?_
    rintro e w2 ⟨rfl, nw2, hww2⟩
    have bw2 := below_of_drewN hww2
    clear hww2
    replace bw2 := below_of1 bw2
    replace h0 := h0.below bw2
    replace hb := below_trans hb bw2
    clear bw2
    rw [eqB_true rfl]
    clear hx hy kx ky
    go_wp2_with fail
    refine (within_any m 10001 _ (by omega) (by omega)).mono ?_
    rintro e w' ⟨rfl, rfl⟩
    rw [← HR.out]
    go_wp2_with fail
    refine (within_any n 10001 _ (by omega) (by omega)).mono ?_
    rintro e w' ⟨rfl, rfl⟩
    rw [← HS.out]
    go_wp2_with fail
    refine (lrun_no a0 l0 c0 R _ hE h0).mono ?_
    rintro e w3 ⟨Ax, cx, Ay, cy, rfl, bx⟩
    replace h0 := h0.below bx
    replace hb := below_trans hb bx
    clear bx
    go_wp2_with fail
    refine (trCheck_any a0 l0 c0 _ h0).mono ?_
    rintro e w' ⟨rfl, rfl⟩
    go_wp2
    go_ret
    exact ⟨rfl, hb⟩

end Go.Proofs.Ytifmefachdfmjaa
