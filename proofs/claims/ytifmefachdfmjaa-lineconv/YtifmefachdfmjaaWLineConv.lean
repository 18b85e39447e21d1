
/-
  The walk of the law LineConv.
-/
import Derived.Test.YtifmefachdfmjaaLineA
import Derived.Test.YtifmefachdfmjaaShapeK
namespace Go.Proofs.Ytifmefachdfmjaa
set_option linter.all false
open Go.RowKit Go.Shelf


set_option maxRecDepth 100000 in
set_option maxHeartbeats 3200000 in
theorem walk_LineConv (a0 : Option Addr) (c0 : Nat) (l0 : List Int) (n : Int) (w : World)
    (h0 : Ints w a0 l0) (k0 : l0.length ≤ c0) (_hn : (Lit.int .i64 n).wf = true) :
    Calls Try.prog 5 #[.slice a0 l0.length c0, .int .i64 n] w fun e w' => e = .returned (.bool true) ∧ Below w.heap.size w w' := by
  have hb : Below w.heap.size w w := Below.refl _ _
  clear _hn
  by_cases hE : linE l0 n = 0
  · obtain ⟨v, r0, r1⟩ := lin_ok hE
    have HE := Lib.hid hE
    have hle := v.le
    have kl : ((l0.length + 1 : Nat) : Int) = (l0.length : Int) + 1 := by omega
    have vg := tr_go v r0 r1
    have HLG : Hid ((goL l0 n).length = l0.length) := Lib.hid (length_goL _ _)
    have HLA : Hid ((adL l0).length = l0.length + 1) := Lib.hid (length_adL _)
    have HLD : Hid ((adL (goL l0 n)).length = l0.length + 1) := Lib.hid (by rw [length_adL, length_goL])
    have HLT : Hid ((tab (l0.length + 1) (liV n 0)).length = l0.length + 1) := Lib.hid (length_tab _ _)
    have Z := Lib.hid (conv_line v r0 r1)
    have bz := Lib.hid (ad_cv vg).small
    have bg := Lib.hid (li_cv r0 r1 (Int.le_refl _) v.le).small
    clear hE
    by_cases h00 : l0.length = 0
    · have i0 : (l0.length : Int) - 1 = -1 := by omega
      have H00 := Lib.hid h00
      clear h00
      go_enter Try.func5, Try.ntmps5
      go_wp2_with fail
      refine (lrun_yes _ [5] [2] [3] _ 1 _ 2 _ (Lib.hid (by decide)) (Lib.hid (by decide)) (Lib.hid (by decide)) (by exact Ints.lit _ [5] _ _ rfl (by decide)) rfl rfl).mono ?_
      rintro e w1 ⟨Ax, cx, Ay, cy, rfl, hx, hy, kx, ky, bw1⟩
      replace bw1 := below_of1 bw1
      replace h0 := h0.below bw1
      replace hb := below_trans hb bw1
      clear bw1
      go_wp2_with fail
      refine (equal_at Ax _ [2] [2] _ _ _ _ _ (by exact Ints.alloc hx _) (by exact Ints.lit _ [2] _ _ rfl (by decide)) rfl rfl).mono ?_
      rintro e w2 ⟨rfl, nw2, hww2⟩
      have bw2 := below_of_drewN hww2
      clear hww2
      replace bw2 := below_of1 bw2
      replace h0 := h0.below bw2
      replace hb := below_trans hb bw2
      clear bw2
      rw [eqB_true rfl]
      clear hx hy kx ky
      go_wp2_with fail
      refine (lrun_yes a0 l0 (goL l0 n) (waL l0 n) _ l0.length c0 n _ HE (Lib.hid rfl) (Lib.hid rfl) h0 rfl rfl).mono ?_
      rintro e w3 ⟨Ax, cx, Ay, cy, rfl, hx, hy, kx, ky, bw3⟩
      replace h0 := h0.below bw3
      replace hb := below_trans hb bw3
      clear bw3
      go_wp2_with fail
      refine (sum_yes' a0 l0 (adL l0) _ (l0.length + 1) c0 _ v (Lib.hid rfl) h0 rfl rfl).mono ?_
      rintro e w4 ⟨Af, cf, rfl, hf, kf, bw4⟩
      replace h0 := h0.below bw4
      replace hx := hx.below bw4
      replace hy := hy.below bw4
      replace hb := below_trans hb bw4
      clear bw4
      go_wp2_with fail
      refine (sum_yes' Ax (goL l0 n) (adL (goL l0 n)) _ (l0.length + 1) _ _ vg (Lib.hid rfl) hx HLG.out.symm (by rw [HLG.out])).mono ?_
      rintro e w5 ⟨Ad, cd, rfl, hd, kd, bw5⟩
      replace hy := hy.below bw5
      replace hf := hf.below bw5
      replace hb := below_trans hb bw5
      clear bw5
      go_wp2_with fail
      refine (line_yes l0.length l0.length n 0 (tab (l0.length + 1) (liV n 0)) _ rfl hle r0 r1 (by omega) (by omega) rfl (bg.out)).mono ?_
      rintro e w6 ⟨Ag, cg, rfl, og, bw6⟩
      replace hy := hy.below bw6
      replace hf := hf.below bw6
      replace hd := hd.below bw6
      replace hb := below_trans hb bw6
      have hg := Ints.of_own og
      clear bw6 og
      rw [HLT.out]
      go_wp2_with fail
      refine (conv_yes Af Ag (adL l0) (tab (l0.length + 1) (liV n 0)) (adL (goL l0 n)) _ _ _ _ _ Z.out bz.out hf hg HLA.out.symm HLT.out.symm).mono ?_
      rintro e w7 ⟨Az, cz, rfl, oz, bw7⟩
      replace hy := hy.below bw7
      replace hf := hf.below bw7
      replace hd := hd.below bw7
      replace hb := below_trans hb bw7
      have hz := Ints.of_own oz
      clear bw7 oz
      rw [HLD.out]
      go_wp2_with fail
      refine (equal_at Ad Az (adL (goL l0 n)) (adL (goL l0 n)) _ _ _ _ _ hd hz HLD.out.symm HLD.out.symm).mono ?_
      rintro e w8 ⟨rfl, nw8, hww8⟩
      have bw8 := below_of_drewN hww8
      clear hww8
      replace hy := hy.below bw8
      replace hf := hf.below bw8
      replace hd := hd.below bw8
      replace hb := below_trans hb bw8
      clear bw8
      rw [eqB_true rfl]
      go_wp2
      go_quiet (fail)
      go_wp2
      go_ret
      exact ⟨rfl, below_trans hb (below_of_drewN rfl)⟩
    · obtain ⟨N, hN⟩ : ∃ N, N = l0.length - 1 := ⟨_, rfl⟩
      have i0 : (l0.length : Int) - 1 = (N : Int) := by omega
      have HN : Hid (l0.length = N + 1) := Lib.hid (by omega)
      have iN : (N : Int) + 1 < (l0.length : Int) + 1 := by omega
      have iN' : (N : Int) < (l0.length : Int) := by omega
      have i9 : decide ((N : Int) < 0) = false := decide_eq_false (by omega)
      clear hN h00
      go_enter Try.func5, Try.ntmps5
      go_wp2_with fail
      refine (lrun_yes _ [5] [2] [3] _ 1 _ 2 _ (Lib.hid (by decide)) (Lib.hid (by decide)) (Lib.hid (by decide)) (by exact Ints.lit _ [5] _ _ rfl (by decide)) rfl rfl).mono ?_
      rintro e w1 ⟨Ax, cx, Ay, cy, rfl, hx, hy, kx, ky, bw1⟩
      replace bw1 := below_of1 bw1
      replace h0 := h0.below bw1
      replace hb := below_trans hb bw1
      clear bw1
      go_wp2_with fail
      refine (equal_at Ax _ [2] [2] _ _ _ _ _ (by exact Ints.alloc hx _) (by exact Ints.lit _ [2] _ _ rfl (by decide)) rfl rfl).mono ?_
      rintro e w2 ⟨rfl, nw2, hww2⟩
      have bw2 := below_of_drewN hww2
      clear hww2
      replace bw2 := below_of1 bw2
      replace h0 := h0.below bw2
      replace hb := below_trans hb bw2
      clear bw2
      rw [eqB_true rfl]
      clear hx hy kx ky
      go_wp2_with fail
      refine (lrun_yes a0 l0 (goL l0 n) (waL l0 n) _ l0.length c0 n _ HE (Lib.hid rfl) (Lib.hid rfl) h0 rfl rfl).mono ?_
      rintro e w3 ⟨Ax, cx, Ay, cy, rfl, hx, hy, kx, ky, bw3⟩
      replace h0 := h0.below bw3
      replace hb := below_trans hb bw3
      clear bw3
      go_wp2_with fail
      refine (sum_yes' a0 l0 (adL l0) _ (l0.length + 1) c0 _ v (Lib.hid rfl) h0 rfl rfl).mono ?_
      rintro e w4 ⟨Af, cf, rfl, hf, kf, bw4⟩
      replace h0 := h0.below bw4
      replace hx := hx.below bw4
      replace hy := hy.below bw4
      replace hb := below_trans hb bw4
      clear bw4
      go_wp2_with fail
      refine (sum_yes' Ax (goL l0 n) (adL (goL l0 n)) _ (l0.length + 1) _ _ vg (Lib.hid rfl) hx HLG.out.symm (by rw [HLG.out])).mono ?_
      rintro e w5 ⟨Ad, cd, rfl, hd, kd, bw5⟩
      replace hy := hy.below bw5
      replace hf := hf.below bw5
      replace hb := below_trans hb bw5
      clear bw5
      go_wp2_with fail
      refine (line_yes l0.length l0.length n 0 (tab (l0.length + 1) (liV n 0)) _ rfl hle r0 r1 (by omega) (by omega) rfl (bg.out)).mono ?_
      rintro e w6 ⟨Ag, cg, rfl, og, bw6⟩
      replace hy := hy.below bw6
      replace hf := hf.below bw6
      replace hd := hd.below bw6
      replace hb := below_trans hb bw6
      have hg := Ints.of_own og
      clear bw6 og
      rw [HLT.out]
      go_wp2_with fail
      refine (conv_yes Af Ag (adL l0) (tab (l0.length + 1) (liV n 0)) (adL (goL l0 n)) _ _ _ _ _ Z.out bz.out hf hg HLA.out.symm HLT.out.symm).mono ?_
      rintro e w7 ⟨Az, cz, rfl, oz, bw7⟩
      replace hy := hy.below bw7
      replace hf := hf.below bw7
      replace hd := hd.below bw7
      replace hb := below_trans hb bw7
      have hz := Ints.of_own oz
      clear bw7 oz
      rw [HLD.out]
      go_wp2_with fail
      refine (equal_at Ad Az (adL (goL l0 n)) (adL (goL l0 n)) _ _ _ _ _ hd hz HLD.out.symm HLD.out.symm).mono ?_
      rintro e w8 ⟨rfl, nw8, hww8⟩
      have bw8 := below_of_drewN hww8
      clear hww8
      replace hy := hy.below bw8
      replace hf := hf.below bw8
      replace hd := hd.below bw8
      replace hb := below_trans hb bw8
      clear bw8
      rw [eqB_true rfl]
      have q1 : N + 1 ≤ l0.length := by omega
      obtain ⟨b1, o1, F, e1, hc1, HF⟩ := hf.at_ (k := N + 1) (by rw [HLA.out]; omega)
      obtain ⟨b2, o2, D, e2, hc2, HD⟩ := hd.at_ (k := N + 1) (by rw [HLD.out]; omega)
      obtain ⟨b3, o3, Y, e3, hc3, HY⟩ := hy.at_ (k := N) (by rw [length_waL]; omega)
      subst e1 e2 e3
      have hF := gt_of_get HF.out
      have hD := gt_of_get HD.out
      have hY := gt_of_get HY.out
      rw [gt_adL (by omega)] at hF
      rw [gt_adL (by rw [HLG.out]; omega), sum_go _ (by omega)] at hD
      rw [gt_waL (by omega)] at hY
      have y0 : 0 ≤ Y ∧ Y ≤ 600000 := by rw [← hY]; exact wa_bd v r0 (by omega)
      have f0 : 0 ≤ F ∧ F ≤ 600000 := by rw [← hF]; have := sum_lo v (N + 1) (by omega); omega
      obtain ⟨ya, yb⟩ := y0
      obtain ⟨fa, fb⟩ := f0
      have s1 : IntKind.i64.wrap (D + Y) = D + Y := IntWalk.i64_in _ ⟨by omega, by omega⟩
      have t1 : (F == D + Y) = true := by simp; omega
      have s2 : IntKind.i64.wrap ((N : Int) + 1) = (N : Int) + 1 := IntWalk.i64_in _ ⟨by omega, by omega⟩
      have s3 : ((N : Int) + 1).toNat = N + 1 := by omega
      have z1 : (0 : Int) ≤ (N : Int) + 1 := by omega
      clear hF hD hY
      go_wp2
      go_quiet (fail)
      go_wp2
      go_ret
      exact ⟨rfl, below_trans hb (below_of_drewN rfl)⟩
  · have e1 : (linE l0 n != 0) = true := by simp [hE]
    go_enter Try.func5, Try.ntmps5
    go_wp2_with fail
    refine (lrun_yes _ [5] [2] [3] _ 1 _ 2 _ (Lib.hid (by decide)) (Lib.hid (by decide)) (Lib.hid (by decide)) (by exact Ints.lit _ [5] _ _ rfl (by decide)) rfl rfl).mono ?_
    rintro e w1 ⟨Ax, cx, Ay, cy, rfl, hx, hy, kx, ky, bw1⟩
    replace bw1 := below_of1 bw1
    replace h0 := h0.below bw1
    replace hb := below_trans hb bw1
    clear bw1
    go_wp2_with fail
    refine (equal_at Ax _ [2] [2] _ _ _ _ _ (by exact Ints.alloc hx _) (by exact Ints.lit _ [2] _ _ rfl (by decide)) rfl rfl).mono ?_
    rintro e w2 ⟨rfl, nw2, hww2⟩
    have bw2 := below_of_drewN hww2
    clear hww2
    replace bw2 := below_of1 bw2
    replace h0 := h0.below bw2
    replace hb := below_trans hb bw2
    clear bw2
    rw [eqB_true rfl]
    clear hx hy kx ky
    go_wp2_with fail
    refine (lrun_no a0 l0 c0 n _ hE h0).mono ?_
    rintro e w3 ⟨Ax, cx, Ay, cy, rfl, bx⟩
    replace h0 := h0.below bx
    replace hb := below_trans hb bx
    clear bx
    go_wp2
    go_ret
    exact ⟨rfl, hb⟩

end Go.Proofs.Ytifmefachdfmjaa
