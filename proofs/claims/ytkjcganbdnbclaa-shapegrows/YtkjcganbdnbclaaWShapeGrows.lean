
/-
  The walk of the law ShapeGrows.
-/
import Derived.Test.YtkjcganbdnbclaaShapeK
namespace Go.Proofs.Ytkjcganbdnbclaa
set_option linter.all false
open Go.RowKit Go.Shelf


set_option maxHeartbeats 3200000 in
theorem walk_ShapeGrows (h r s a b : Int) (w : World) (_hh : (Lit.int .i64 h).wf = true) (_hr : (Lit.int .i64 r).wf = true) (_hs : (Lit.int .i64 s).wf = true) (_ha : (Lit.int .i64 a).wf = true) (_hb : (Lit.int .i64 b).wf = true) :
    Calls Try.prog 7 #[.int .i64 h, .int .i64 r, .int .i64 s, .int .i64 a, .int .i64 b] w fun e w' => e = .returned (.bool true) ∧ Below w.heap.size w w' := by
  have hb : Below w.heap.size w w := Below.refl _ _
  obtain ⟨k, hk⟩ := Int.eq_ofNat_of_zero_le (wi_nonneg h 61 (by omega))
  have k60 : k ≤ 60 := by have := wi_lt h 61 (by omega); omega
  have HK := Lib.hid hk
  clear hk
  obtain ⟨R, hR⟩ : ∃ y, y = wi r 5001 := ⟨_, rfl⟩
  have Rlo : 0 ≤ R := by rw [hR]; exact wi_nonneg _ _ (by omega)
  have Rhi : R < 5001 := by rw [hR]; exact wi_lt r 5001 (by omega)
  have HR := Lib.hid hR
  clear hR
  obtain ⟨S, hS⟩ : ∃ y, y = wi s 5001 := ⟨_, rfl⟩
  have Slo : 0 ≤ S := by rw [hS]; exact wi_nonneg _ _ (by omega)
  have Shi : S < 5001 := by rw [hS]; exact wi_lt s 5001 (by omega)
  have HS := Lib.hid hS
  clear hS
  obtain ⟨A, hA⟩ : ∃ y, y = wi a 61 := ⟨_, rfl⟩
  have Alo : 0 ≤ A := by rw [hA]; exact wi_nonneg _ _ (by omega)
  have Ahi : A < 61 := by rw [hA]; exact wi_lt a 61 (by omega)
  have HA := Lib.hid hA
  clear hA
  obtain ⟨B, hB⟩ : ∃ y, y = wi b 61 := ⟨_, rfl⟩
  have Blo : 0 ≤ B := by rw [hB]; exact wi_nonneg _ _ (by omega)
  have Bhi : B < 61 := by rw [hB]; exact wi_lt b 61 (by omega)
  have HB := Lib.hid hB
  clear hB
  obtain ⟨D, hD⟩ : ∃ D : Int, D = A % 60 := ⟨_, rfl⟩
  have D0 : 0 ≤ D := by omega
  have D1 : D < 60 := by omega
  have eD : A.tmod 60 = D := by rw [hD]; exact Int.tmod_eq_emod_of_nonneg Alo
  obtain ⟨Q, hQ⟩ : ∃ Q : Int, Q = (R + (1 + D) - 1) / (1 + D) := ⟨_, rfl⟩
  have eQ : (R + D).tdiv (1 + D) = Q := by rw [hQ, Int.tdiv_eq_ediv_of_nonneg (by omega), show R + (1 + D) - 1 = R + D by omega]
  have Q0 : 0 ≤ Q := by rw [hQ]; exact ceil_nonneg (by omega) Rlo
  have Q1 : Q ≤ 5000 := by
    rw [hQ]
    exact (ceil_iff (by omega)).2 (by have := mul_l (show (1 : Int) ≤ 1 + D by omega) (show (0 : Int) ≤ 5000 by decide); omega)
  have e60 : ((1 + D : Int) == 0) = false := by rw [beq_eq_false_iff_ne]; omega
  have HD := Lib.hid hD
  have HQ := Lib.hid hQ
  clear hD hQ
  obtain ⟨x, X⟩ : ∃ x, Hid (x = tab (k + 1) (buV R A)) := ⟨_, Lib.hid rfl⟩
  obtain ⟨y, Y⟩ : ∃ y, Hid (y = tab (k + 1) (buV (R + S) (A + B))) := ⟨_, Lib.hid rfl⟩
  obtain ⟨m, M⟩ : ∃ m, Hid (m = tab (k + 1) (liV (R + S) A)) := ⟨_, Lib.hid rfl⟩
  obtain ⟨p, P⟩ : ∃ p, Hid (p = tab (k + 1) (stV R (1 + D))) := ⟨_, Lib.hid rfl⟩
  obtain ⟨q, U⟩ : ∃ q, Hid (q = tab (k + 1) (buV Q R)) := ⟨_, Lib.hid rfl⟩
  have vx : Cv x := by rw [X.out]; exact bu_cv Rlo (by omega) Alo (by omega) k60
  have vy : Cv y := by rw [Y.out]; exact bu_cv (by omega) (by omega) (by omega) (by omega) k60
  have vm : Cv m := by rw [M.out]; exact li_cv (by omega) (by omega) Alo k60
  have vp : Cv p := by rw [P.out]; exact st_cv Rlo (by omega) (by omega) k60
  have vq : Cv q := by rw [U.out]; exact bu_cv Q0 (by omega) Rlo (by omega) k60
  have K1 : Hid (leK x y = true) := Lib.hid (by rw [X.out] at vx ⊢; rw [Y.out] at vy ⊢; exact le_tab vx vy (fun t => bu_le (by omega) (by omega) t))
  have K3 : Hid (leK p q = true) := Lib.hid (by rw [P.out] at vp ⊢; rw [U.out] at vq ⊢; exact le_tab vp vq (fun t => by rw [HQ.out]; exact st_bu Rlo (by omega) t))
  have bx := Lib.hid vx.small
  have byy := Lib.hid vy.small
  have bm := Lib.hid vm.small
  have bp := Lib.hid vp.small
  have bq := Lib.hid vq.small
  rcases Int.lt_trichotomy (A + B) 60 with c | c | c
  · obtain ⟨l, L⟩ : ∃ l, Hid (l = tab (k + 1) (liV R (A + B))) := ⟨_, Lib.hid rfl⟩
    have vl : Cv l := by rw [L.out]; exact li_cv Rlo (by omega) (by omega) k60
    have bl := Lib.hid vl.small
    have K2 : Hid (leK l m = true) := Lib.hid (by rw [L.out] at vl ⊢; rw [M.out] at vm ⊢; exact le_tab vl vm (fun t => li_le Rlo (by omega) (by omega) t))
    go_enter Try.func7, Try.ntmps7
    go_wp2_with fail
    refine (bucket_yes 2 2 1 0 [0, 1, 2] _ rfl (by decide) (by decide) (by decide) (by decide) (by decide) (by decide) (by decide)).mono ?_
    rintro e w1 ⟨Ax, cx, rfl, ox, bw1⟩
    replace hb := below_trans hb bw1
    have hx := Ints.of_own ox
    clear bw1 ox
    go_wp2_with fail
    refine (equal_at Ax _ [0, 1, 2] [0, 1, 2] _ _ _ _ _ (by exact Ints.alloc hx _) (by exact Ints.lit _ _ _ _ rfl (by decide)) rfl rfl).mono ?_
    rintro e w2 ⟨rfl, nw2, hww2⟩
    have bw2 := below_of_drewN hww2
    clear hww2
    replace bw2 := below_of1 bw2
    replace hb := below_trans hb bw2
    clear bw2
    rw [eqB_true rfl]
    clear hx
    go_wp2_with fail
    refine (within_any h 61 _ (by omega) (by omega)).mono ?_
    rintro e w' ⟨rfl, rfl⟩
    rw [HK.out]
    go_wp2_with fail
    refine (within_any r 5001 _ (by omega) (by omega)).mono ?_
    rintro e w' ⟨rfl, rfl⟩
    rw [← HR.out]
    go_wp2_with fail
    refine (within_any s 5001 _ (by omega) (by omega)).mono ?_
    rintro e w' ⟨rfl, rfl⟩
    rw [← HS.out]
    go_wp2_with fail
    refine (within_any a 61 _ (by omega) (by omega)).mono ?_
    rintro e w' ⟨rfl, rfl⟩
    rw [← HA.out]
    go_wp2_with fail
    refine (within_any b 61 _ (by omega) (by omega)).mono ?_
    rintro e w' ⟨rfl, rfl⟩
    rw [← HB.out]
    go_wp2_with fail
    refine (bucket_yes k k R A x _ rfl k60 Rlo (by omega) Alo (by omega) X.out bx.out).mono ?_
    rintro e w3 ⟨Ax, cx, rfl, ox, bw3⟩
    replace hb := below_trans hb bw3
    have hx := Ints.of_own ox
    clear bw3 ox
    go_wp2_with fail
    refine (bucket_yes k k (R + S) (A + B) y _ rfl k60 (by omega) (by omega) (by omega) (by omega) Y.out byy.out).mono ?_
    rintro e w4 ⟨Ay, cy, rfl, oy, bw4⟩
    replace hx := hx.below bw4
    replace hb := below_trans hb bw4
    have hy := Ints.of_own oy
    clear bw4 oy
    go_wp2_with fail
    refine (line_yes k k R (A + B) l _ rfl k60 Rlo (by omega) (by omega) (by omega) L.out bl.out).mono ?_
    rintro e w5 ⟨Al, cl, rfl, ol, bw5⟩
    replace hx := hx.below bw5
    replace hy := hy.below bw5
    replace hb := below_trans hb bw5
    have hl := Ints.of_own ol
    clear bw5 ol
    go_wp2_with fail
    refine (line_yes k k (R + S) A m _ rfl k60 (by omega) (by omega) Alo (by omega) M.out bm.out).mono ?_
    rintro e w6 ⟨Am, cm, rfl, om, bw6⟩
    replace hx := hx.below bw6
    replace hy := hy.below bw6
    replace hl := hl.below bw6
    replace hb := below_trans hb bw6
    have hm := Ints.of_own om
    clear bw6 om
    go_wp2_with fail
    refine (stair_yes k k R (1 + D) p _ rfl k60 Rlo (by omega) (by omega) (by omega) P.out bp.out).mono ?_
    rintro e w7 ⟨Ap, cp, rfl, op, bw7⟩
    replace hx := hx.below bw7
    replace hy := hy.below bw7
    replace hl := hl.below bw7
    replace hm := hm.below bw7
    replace hb := below_trans hb bw7
    have hp := Ints.of_own op
    clear bw7 op
    go_wp2_with fail
    refine (bucket_yes k k Q R q _ rfl k60 (by omega) (by omega) (by omega) (by omega) U.out bq.out).mono ?_
    rintro e w8 ⟨Aq, cq, rfl, oq, bw8⟩
    replace hx := hx.below bw8
    replace hy := hy.below bw8
    replace hl := hl.below bw8
    replace hm := hm.below bw8
    replace hp := hp.below bw8
    replace hb := below_trans hb bw8
    have hq := Ints.of_own oq
    clear bw8 oq
    go_wp2_with fail
    refine (kle_at Ax Ay x y _ _ _ _ _ hx hy rfl rfl).mono ?_
    rintro e w9 ⟨rfl, nw9, hww9⟩
    have bw9 := below_of_drewN hww9
    clear hww9
    replace hl := hl.below bw9
    replace hm := hm.below bw9
    replace hp := hp.below bw9
    replace hq := hq.below bw9
    replace hb := below_trans hb bw9
    clear bw9
    rw [K1.out]
    go_wp2_with fail
    refine (kle_at Al Am l m _ _ _ _ _ hl hm rfl rfl).mono ?_
    rintro e w10 ⟨rfl, nw10, hww10⟩
    have bw10 := below_of_drewN hww10
    clear hww10
    replace hp := hp.below bw10
    replace hq := hq.below bw10
    replace hb := below_trans hb bw10
    clear bw10
    rw [K2.out]
    go_wp2_with fail
    refine (kle_at Ap Aq p q _ _ _ _ _ hp hq rfl rfl).mono ?_
    rintro e w11 ⟨rfl, nw11, hww11⟩
    have bw11 := below_of_drewN hww11
    clear hww11
    replace hb := below_trans hb bw11
    clear bw11
    rw [K3.out]
    go_wp2
    go_ret
    exact ⟨rfl, hb⟩
  · have c1 : A + B ≤ 60 := by omega
    have c2 : 60 ≤ A + B := by omega
    clear c
    obtain ⟨l, L⟩ : ∃ l, Hid (l = tab (k + 1) (liV R 60)) := ⟨_, Lib.hid rfl⟩
    have vl : Cv l := by rw [L.out]; exact li_cv Rlo (by omega) (by omega) k60
    have bl := Lib.hid vl.small
    have K2 : Hid (leK l m = true) := Lib.hid (by rw [L.out] at vl ⊢; rw [M.out] at vm ⊢; exact le_tab vl vm (fun t => li_le Rlo (by omega) (by omega) t))
    go_enter Try.func7, Try.ntmps7
    go_wp2_with fail
    refine (bucket_yes 2 2 1 0 [0, 1, 2] _ rfl (by decide) (by decide) (by decide) (by decide) (by decide) (by decide) (by decide)).mono ?_
    rintro e w1 ⟨Ax, cx, rfl, ox, bw1⟩
    replace hb := below_trans hb bw1
    have hx := Ints.of_own ox
    clear bw1 ox
    go_wp2_with fail
    refine (equal_at Ax _ [0, 1, 2] [0, 1, 2] _ _ _ _ _ (by exact Ints.alloc hx _) (by exact Ints.lit _ _ _ _ rfl (by decide)) rfl rfl).mono ?_
    rintro e w2 ⟨rfl, nw2, hww2⟩
    have bw2 := below_of_drewN hww2
    clear hww2
    replace bw2 := below_of1 bw2
    replace hb := below_trans hb bw2
    clear bw2
    rw [eqB_true rfl]
    clear hx
    go_wp2_with fail
    refine (within_any h 61 _ (by omega) (by omega)).mono ?_
    rintro e w' ⟨rfl, rfl⟩
    rw [HK.out]
    go_wp2_with fail
    refine (within_any r 5001 _ (by omega) (by omega)).mono ?_
    rintro e w' ⟨rfl, rfl⟩
    rw [← HR.out]
    go_wp2_with fail
    refine (within_any s 5001 _ (by omega) (by omega)).mono ?_
    rintro e w' ⟨rfl, rfl⟩
    rw [← HS.out]
    go_wp2_with fail
    refine (within_any a 61 _ (by omega) (by omega)).mono ?_
    rintro e w' ⟨rfl, rfl⟩
    rw [← HA.out]
    go_wp2_with fail
    refine (within_any b 61 _ (by omega) (by omega)).mono ?_
    rintro e w' ⟨rfl, rfl⟩
    rw [← HB.out]
    go_wp2_with fail
    refine (bucket_yes k k R A x _ rfl k60 Rlo (by omega) Alo (by omega) X.out bx.out).mono ?_
    rintro e w3 ⟨Ax, cx, rfl, ox, bw3⟩
    replace hb := below_trans hb bw3
    have hx := Ints.of_own ox
    clear bw3 ox
    go_wp2_with fail
    refine (bucket_yes k k (R + S) (A + B) y _ rfl k60 (by omega) (by omega) (by omega) (by omega) Y.out byy.out).mono ?_
    rintro e w4 ⟨Ay, cy, rfl, oy, bw4⟩
    replace hx := hx.below bw4
    replace hb := below_trans hb bw4
    have hy := Ints.of_own oy
    clear bw4 oy
    go_wp2_with fail
    refine (line_yes k k R 60 l _ rfl k60 Rlo (by omega) (by omega) (by omega) L.out bl.out).mono ?_
    rintro e w5 ⟨Al, cl, rfl, ol, bw5⟩
    replace hx := hx.below bw5
    replace hy := hy.below bw5
    replace hb := below_trans hb bw5
    have hl := Ints.of_own ol
    clear bw5 ol
    go_wp2_with fail
    refine (line_yes k k (R + S) A m _ rfl k60 (by omega) (by omega) Alo (by omega) M.out bm.out).mono ?_
    rintro e w6 ⟨Am, cm, rfl, om, bw6⟩
    replace hx := hx.below bw6
    replace hy := hy.below bw6
    replace hl := hl.below bw6
    replace hb := below_trans hb bw6
    have hm := Ints.of_own om
    clear bw6 om
    go_wp2_with fail
    refine (stair_yes k k R (1 + D) p _ rfl k60 Rlo (by omega) (by omega) (by omega) P.out bp.out).mono ?_
    rintro e w7 ⟨Ap, cp, rfl, op, bw7⟩
    replace hx := hx.below bw7
    replace hy := hy.below bw7
    replace hl := hl.below bw7
    replace hm := hm.below bw7
    replace hb := below_trans hb bw7
    have hp := Ints.of_own op
    clear bw7 op
    go_wp2_with fail
    refine (bucket_yes k k Q R q _ rfl k60 (by omega) (by omega) (by omega) (by omega) U.out bq.out).mono ?_
    rintro e w8 ⟨Aq, cq, rfl, oq, bw8⟩
    replace hx := hx.below bw8
    replace hy := hy.below bw8
    replace hl := hl.below bw8
    replace hm := hm.below bw8
    replace hp := hp.below bw8
    replace hb := below_trans hb bw8
    have hq := Ints.of_own oq
    clear bw8 oq
    go_wp2_with fail
    refine (kle_at Ax Ay x y _ _ _ _ _ hx hy rfl rfl).mono ?_
    rintro e w9 ⟨rfl, nw9, hww9⟩
    have bw9 := below_of_drewN hww9
    clear hww9
    replace hl := hl.below bw9
    replace hm := hm.below bw9
    replace hp := hp.below bw9
    replace hq := hq.below bw9
    replace hb := below_trans hb bw9
    clear bw9
    rw [K1.out]
    go_wp2_with fail
    refine (kle_at Al Am l m _ _ _ _ _ hl hm rfl rfl).mono ?_
    rintro e w10 ⟨rfl, nw10, hww10⟩
    have bw10 := below_of_drewN hww10
    clear hww10
    replace hp := hp.below bw10
    replace hq := hq.below bw10
    replace hb := below_trans hb bw10
    clear bw10
    rw [K2.out]
    go_wp2_with fail
    refine (kle_at Ap Aq p q _ _ _ _ _ hp hq rfl rfl).mono ?_
    rintro e w11 ⟨rfl, nw11, hww11⟩
    have bw11 := below_of_drewN hww11
    clear hww11
    replace hb := below_trans hb bw11
    clear bw11
    rw [K3.out]
    go_wp2
    go_ret
    exact ⟨rfl, hb⟩
  · obtain ⟨l, L⟩ : ∃ l, Hid (l = tab (k + 1) (liV R 60)) := ⟨_, Lib.hid rfl⟩
    have vl : Cv l := by rw [L.out]; exact li_cv Rlo (by omega) (by omega) k60
    have bl := Lib.hid vl.small
    have K2 : Hid (leK l m = true) := Lib.hid (by rw [L.out] at vl ⊢; rw [M.out] at vm ⊢; exact le_tab vl vm (fun t => li_le Rlo (by omega) (by omega) t))
    go_enter Try.func7, Try.ntmps7
    go_wp2_with fail
    refine (bucket_yes 2 2 1 0 [0, 1, 2] _ rfl (by decide) (by decide) (by decide) (by decide) (by decide) (by decide) (by decide)).mono ?_
    rintro e w1 ⟨Ax, cx, rfl, ox, bw1⟩
    replace hb := below_trans hb bw1
    have hx := Ints.of_own ox
    clear bw1 ox
    go_wp2_with fail
    refine (equal_at Ax _ [0, 1, 2] [0, 1, 2] _ _ _ _ _ (by exact Ints.alloc hx _) (by exact Ints.lit _ _ _ _ rfl (by decide)) rfl rfl).mono ?_
    rintro e w2 ⟨rfl, nw2, hww2⟩
    have bw2 := below_of_drewN hww2
    clear hww2
    replace bw2 := below_of1 bw2
    replace hb := below_trans hb bw2
    clear bw2
    rw [eqB_true rfl]
    clear hx
    go_wp2_with fail
    refine (within_any h 61 _ (by omega) (by omega)).mono ?_
    rintro e w' ⟨rfl, rfl⟩
    rw [HK.out]
    go_wp2_with fail
    refine (within_any r 5001 _ (by omega) (by omega)).mono ?_
    rintro e w' ⟨rfl, rfl⟩
    rw [← HR.out]
    go_wp2_with fail
    refine (within_any s 5001 _ (by omega) (by omega)).mono ?_
    rintro e w' ⟨rfl, rfl⟩
    rw [← HS.out]
    go_wp2_with fail
    refine (within_any a 61 _ (by omega) (by omega)).mono ?_
    rintro e w' ⟨rfl, rfl⟩
    rw [← HA.out]
    go_wp2_with fail
    refine (within_any b 61 _ (by omega) (by omega)).mono ?_
    rintro e w' ⟨rfl, rfl⟩
    rw [← HB.out]
    go_wp2_with fail
    refine (bucket_yes k k R A x _ rfl k60 Rlo (by omega) Alo (by omega) X.out bx.out).mono ?_
    rintro e w3 ⟨Ax, cx, rfl, ox, bw3⟩
    replace hb := below_trans hb bw3
    have hx := Ints.of_own ox
    clear bw3 ox
    go_wp2_with fail
    refine (bucket_yes k k (R + S) (A + B) y _ rfl k60 (by omega) (by omega) (by omega) (by omega) Y.out byy.out).mono ?_
    rintro e w4 ⟨Ay, cy, rfl, oy, bw4⟩
    replace hx := hx.below bw4
    replace hb := below_trans hb bw4
    have hy := Ints.of_own oy
    clear bw4 oy
    go_wp2_with fail
    refine (line_yes k k R 60 l _ rfl k60 Rlo (by omega) (by omega) (by omega) L.out bl.out).mono ?_
    rintro e w5 ⟨Al, cl, rfl, ol, bw5⟩
    replace hx := hx.below bw5
    replace hy := hy.below bw5
    replace hb := below_trans hb bw5
    have hl := Ints.of_own ol
    clear bw5 ol
    go_wp2_with fail
    refine (line_yes k k (R + S) A m _ rfl k60 (by omega) (by omega) Alo (by omega) M.out bm.out).mono ?_
    rintro e w6 ⟨Am, cm, rfl, om, bw6⟩
    replace hx := hx.below bw6
    replace hy := hy.below bw6
    replace hl := hl.below bw6
    replace hb := below_trans hb bw6
    have hm := Ints.of_own om
    clear bw6 om
    go_wp2_with fail
    refine (stair_yes k k R (1 + D) p _ rfl k60 Rlo (by omega) (by omega) (by omega) P.out bp.out).mono ?_
    rintro e w7 ⟨Ap, cp, rfl, op, bw7⟩
    replace hx := hx.below bw7
    replace hy := hy.below bw7
    replace hl := hl.below bw7
    replace hm := hm.below bw7
    replace hb := below_trans hb bw7
    have hp := Ints.of_own op
    clear bw7 op
    go_wp2_with fail
    refine (bucket_yes k k Q R q _ rfl k60 (by omega) (by omega) (by omega) (by omega) U.out bq.out).mono ?_
    rintro e w8 ⟨Aq, cq, rfl, oq, bw8⟩
    replace hx := hx.below bw8
    replace hy := hy.below bw8
    replace hl := hl.below bw8
    replace hm := hm.below bw8
    replace hp := hp.below bw8
    replace hb := below_trans hb bw8
    have hq := Ints.of_own oq
    clear bw8 oq
    go_wp2_with fail
    refine (kle_at Ax Ay x y _ _ _ _ _ hx hy rfl rfl).mono ?_
    rintro e w9 ⟨rfl, nw9, hww9⟩
    have bw9 := below_of_drewN hww9
    clear hww9
    replace hl := hl.below bw9
    replace hm := hm.below bw9
    replace hp := hp.below bw9
    replace hq := hq.below bw9
    replace hb := below_trans hb bw9
    clear bw9
    rw [K1.out]
    go_wp2_with fail
    refine (kle_at Al Am l m _ _ _ _ _ hl hm rfl rfl).mono ?_
    rintro e w10 ⟨rfl, nw10, hww10⟩
    have bw10 := below_of_drewN hww10
    clear hww10
    replace hp := hp.below bw10
    replace hq := hq.below bw10
    replace hb := below_trans hb bw10
    clear bw10
    rw [K2.out]
    go_wp2_with fail
    refine (kle_at Ap Aq p q _ _ _ _ _ hp hq rfl rfl).mono ?_
    rintro e w11 ⟨rfl, nw11, hww11⟩
    have bw11 := below_of_drewN hww11
    clear hww11
    replace hb := below_trans hb bw11
    clear bw11
    rw [K3.out]
    go_wp2
    go_ret
    exact ⟨rfl, hb⟩

end Go.Proofs.Ytkjcganbdnbclaa
