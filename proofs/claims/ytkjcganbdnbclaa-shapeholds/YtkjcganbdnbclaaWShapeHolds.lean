
/-
  The walk of the law ShapeHolds.
-/
import Derived.Test.YtkjcganbdnbclaaShapeK
namespace Go.Proofs.Ytkjcganbdnbclaa
set_option linter.all false
open Go.RowKit Go.Shelf


set_option maxHeartbeats 3200000 in
theorem walk_ShapeHolds (h r n : Int) (w : World) (_hh : (Lit.int .i64 h).wf = true) (_hr : (Lit.int .i64 r).wf = true) (_hn : (Lit.int .i64 n).wf = true) :
    Calls Try.prog 6 #[.int .i64 h, .int .i64 r, .int .i64 n] w fun e w' => e = .returned (.bool true) ∧ Below w.heap.size w w' := by
  have hb : Below w.heap.size w w := Below.refl _ _
  obtain ⟨k, hk⟩ := Int.eq_ofNat_of_zero_le (wi_nonneg h 61 (by omega))
  have k60 : k ≤ 60 := by have := wi_lt h 61 (by omega); omega
  have HK := Lib.hid hk
  clear hk
  obtain ⟨R, hR⟩ : ∃ y, y = wi r 10001 := ⟨_, rfl⟩
  have Rlo : 0 ≤ R := by rw [hR]; exact wi_nonneg _ _ (by omega)
  have Rhi : R < 10001 := by rw [hR]; exact wi_lt r 10001 (by omega)
  have HR := Lib.hid hR
  clear hR
  obtain ⟨A, hA⟩ : ∃ y, y = wi n 100001 := ⟨_, rfl⟩
  have Alo : 0 ≤ A := by rw [hA]; exact wi_nonneg _ _ (by omega)
  have Ahi : A < 100001 := by rw [hA]; exact wi_lt n 100001 (by omega)
  have HA := Lib.hid hA
  clear hA
  obtain ⟨B, hB⟩ : ∃ y, y = wi n 60 := ⟨_, rfl⟩
  have Blo : 0 ≤ B := by rw [hB]; exact wi_nonneg _ _ (by omega)
  have Bhi : B < 60 := by rw [hB]; exact wi_lt n 60 (by omega)
  have HB := Lib.hid hB
  clear hB
  obtain ⟨C, hC⟩ : ∃ y, y = wi n 61 := ⟨_, rfl⟩
  have Clo : 0 ≤ C := by rw [hC]; exact wi_nonneg _ _ (by omega)
  have Chi : C < 61 := by rw [hC]; exact wi_lt n 61 (by omega)
  have HC := Lib.hid hC
  clear hC
  obtain ⟨f, F⟩ : ∃ f, Hid (f = tab (k + 1) (buV R A)) := ⟨_, Lib.hid rfl⟩
  obtain ⟨g, G⟩ : ∃ g, Hid (g = tab (k + 1) (stV R (1 + B))) := ⟨_, Lib.hid rfl⟩
  obtain ⟨l, L⟩ : ∃ l, Hid (l = tab (k + 1) (liV R C)) := ⟨_, Lib.hid rfl⟩
  have vf : Cv f := by rw [F.out]; exact bu_cv Rlo (by omega) Alo (by omega) k60
  have vg : Cv g := by rw [G.out]; exact st_cv Rlo (by omega) (by omega) k60
  have vl : Cv l := by rw [L.out]; exact li_cv Rlo (by omega) Clo k60
  have sf : Hid (Hid (subB f = true)) := Lib.hid (Lib.hid ((subB_iff vf).2 (by rw [F.out]; exact sb_tab (Int.le_refl _) (fun s t => bu_sub Rlo Alo s t))))
  have sg : Hid (Hid (subB g = true)) := Lib.hid (Lib.hid ((subB_iff vg).2 (by rw [G.out]; exact sb_tab (by rw [st_zero (by omega)]; exact Int.le_refl _) (fun s t => st_sub Rlo (by omega) s t))))
  have zl : Sups l l := by rw [L.out] at vl ⊢; exact sup_tab vl (li_zero Clo) (fun s t => li_super Rlo Clo s t)
  have bf := Lib.hid vf.small
  have bg := Lib.hid vg.small
  have bl := Lib.hid vl.small
  go_enter Try.func6, Try.ntmps6
  go_wp2_with fail
  refine (stair_yes 4 4 3 2 [0, 3, 3, 6, 6] _ rfl (by decide) (by decide) (by decide) (by decide) (by decide) (by decide) (by decide)).mono ?_
  rintro e w1 ⟨Ax, cx, rfl, ox, bw1⟩
  replace hb := below_trans hb bw1
  have hx := Ints.of_own ox
  clear bw1 ox
  go_wp2_with fail
  refine (equal_at Ax _ [0, 3, 3, 6, 6] [0, 3, 3, 6, 6] _ _ _ _ _ (by exact Ints.alloc hx _) (by exact Ints.lit _ _ _ _ rfl (by decide)) rfl rfl).mono ?_
  rintro e w2 ⟨rfl, nw2, hww2⟩
  have bw2 := below_of_drewN hww2
  clear hww2
  replace bw2 := below_of1 bw2
  replace hb := below_trans hb bw2
  clear bw2
  rw [eqB_true rfl]
  clear hx
  go_wp2_with fail
  refine (within_any h 61 _ (by omega) (by omega)).mono ?_
  rintro e w' ⟨rfl, rfl⟩
  rw [HK.out]
  go_wp2_with fail
  refine (within_any r 10001 _ (by omega) (by omega)).mono ?_
  rintro e w' ⟨rfl, rfl⟩
  rw [← HR.out]
  go_wp2_with fail
  refine (within_any n 100001 _ (by omega) (by omega)).mono ?_
  rintro e w' ⟨rfl, rfl⟩
  rw [← HA.out]
  go_wp2_with fail
  refine (bucket_yes k k R A f _ rfl k60 Rlo (by omega) Alo (by omega) F.out bf.out).mono ?_
  rintro e w3 ⟨Af, cf, rfl, of, bw3⟩
  replace hb := below_trans hb bw3
  have hf := Ints.of_own of
  have kf := own_cap of
  clear bw3 of
  go_wp2_with fail
  refine (within_any n 60 _ (by omega) (by omega)).mono ?_
  rintro e w' ⟨rfl, rfl⟩
  rw [← HB.out]
  go_wp2_with fail
  refine (stair_yes k k R (1 + B) g _ rfl k60 Rlo (by omega) (by omega) (by omega) G.out bg.out).mono ?_
  rintro e w4 ⟨Ag, cg, rfl, og, bw4⟩
  replace hf := hf.below bw4
  replace hb := below_trans hb bw4
  have hg := Ints.of_own og
  have kg := own_cap og
  clear bw4 og
  go_wp2_with fail
  refine (within_any n 61 _ (by omega) (by omega)).mono ?_
  rintro e w' ⟨rfl, rfl⟩
  rw [← HC.out]
  go_wp2_with fail
  refine (line_yes k k R C l _ rfl k60 Rlo (by omega) Clo (by omega) L.out bl.out).mono ?_
  rintro e w5 ⟨Al, cl, rfl, ol, bw5⟩
  replace hf := hf.below bw5
  replace hg := hg.below bw5
  replace hb := below_trans hb bw5
  have hl := Ints.of_own ol
  have kl := own_cap ol
  clear bw5 ol
  go_wp2_with fail
  refine (is_ok Af f _ cf true _ vf sf.out hf kf rfl).mono ?_
  rintro e w6 ⟨rfl, bw6⟩
  replace hg := hg.below bw6
  replace hl := hl.below bw6
  replace hb := below_trans hb bw6
  clear bw6
  go_wp2_with fail
  refine (is_ok Ag g _ cg true _ vg sg.out hg kg rfl).mono ?_
  rintro e w7 ⟨rfl, bw7⟩
  replace hl := hl.below bw7
  replace hb := below_trans hb bw7
  clear bw7
  go_wp2_with fail
  refine (sup_yes Al l l _ cl _ zl bl.out hl kl rfl).mono ?_
  rintro e w8 ⟨As, cs, rfl, os, bw8⟩
  replace hl := hl.below bw8
  replace hb := below_trans hb bw8
  have hs := Ints.of_own os
  clear bw8 os
  go_wp2_with fail
  refine (equal_at As Al l l _ _ _ _ _ hs hl rfl rfl).mono ?_
  rintro e w9 ⟨rfl, nw9, hww9⟩
  have bw9 := below_of_drewN hww9
  clear hww9
  replace hb := below_trans hb bw9
  clear bw9
  rw [eqB_true rfl]
  go_wp2
  go_ret
  exact ⟨rfl, hb⟩

end Go.Proofs.Ytkjcganbdnbclaa
