
/-
  The walk of the law ConvBuckets.
-/
import Derived.Test.YtkjcganbdnbclaaShapeK
namespace Go.Proofs.Ytkjcganbdnbclaa
set_option linter.all false
open Go.RowKit Go.Shelf


set_option maxHeartbeats 3200000 in
theorem walk_ConvBuckets (h r s a b : Int) (w : World) (_hh : (Lit.int .i64 h).wf = true) (_hr : (Lit.int .i64 r).wf = true) (_hs : (Lit.int .i64 s).wf = true) (_ha : (Lit.int .i64 a).wf = true) (_hb : (Lit.int .i64 b).wf = true) :
    Calls Try.prog 5 #[.int .i64 h, .int .i64 r, .int .i64 s, .int .i64 a, .int .i64 b] w fun e w' => e = .returned (.bool true) ∧ Below w.heap.size w w' := by
  have hb : Below w.heap.size w w := Below.refl _ _
  obtain ⟨k, hk⟩ := Int.eq_ofNat_of_zero_le (wi_nonneg h 61 (by omega))
  have k60 : k ≤ 60 := by have := wi_lt h 61 (by omega); omega
  have HK := Lib.hid hk
  clear hk
  obtain ⟨R, hR⟩ : ∃ y, y = wi r 5001 := ⟨_, rfl⟩
  have Rlo : 0 ≤ R := by rw [hR]; exact wi_nonneg _ _ (by omega)
  have Rhi : R < 5001 := by rw [hR]; exact wi_lt r 5001 (by omega)
  have HR := Lib.hid hR
  clear hR
  obtain ⟨S, hS⟩ : ∃ y, y = wi s 5001 := ⟨_, rfl⟩
  have Slo : 0 ≤ S := by rw [hS]; exact wi_nonneg _ _ (by omega)
  have Shi : S < 5001 := by rw [hS]; exact wi_lt s 5001 (by omega)
  have HS := Lib.hid hS
  clear hS
  obtain ⟨A, hA⟩ : ∃ y, y = wi a 100001 := ⟨_, rfl⟩
  have Alo : 0 ≤ A := by rw [hA]; exact wi_nonneg _ _ (by omega)
  have Ahi : A < 100001 := by rw [hA]; exact wi_lt a 100001 (by omega)
  have HA := Lib.hid hA
  clear hA
  obtain ⟨B, hB⟩ : ∃ y, y = wi b 100001 := ⟨_, rfl⟩
  have Blo : 0 ≤ B := by rw [hB]; exact wi_nonneg _ _ (by omega)
  have Bhi : B < 100001 := by rw [hB]; exact wi_lt b 100001 (by omega)
  have HB := Lib.hid hB
  clear hB
  obtain ⟨f, F⟩ : ∃ f, Hid (f = tab (k + 1) (buV R A)) := ⟨_, Lib.hid rfl⟩
  obtain ⟨g, G⟩ : ∃ g, Hid (g = tab (k + 1) (buV S B)) := ⟨_, Lib.hid rfl⟩
  obtain ⟨x, X⟩ : ∃ x, Hid (x = tab (k + 1) (fun t => min (buV R A t) (buV S B t))) := ⟨_, Lib.hid rfl⟩
  have vf : Cv f := by rw [F.out]; exact bu_cv Rlo (by omega) Alo (by omega) k60
  have vg : Cv g := by rw [G.out]; exact bu_cv Slo (by omega) Blo (by omega) k60
  have vx : Cv x := by
    rw [X.out]
    rw [F.out] at vf
    rw [G.out] at vg
    refine Cv.tab (by omega) (by omega) (fun t _ => ?_) (fun t ht => ?_) (fun t _ => ?_)
    · have := bu_nonneg Rlo Alo t; have := bu_nonneg Slo Blo t; omega
    · have := bu_hi (h := k) (show R ≤ 10000 by omega) (t := t) (by omega) Alo; omega
    · have := bu_up Rlo Alo t; have := bu_up Slo Blo t; omega
  have zx : Convs f g x := by
    rw [F.out] at vf ⊢
    rw [G.out] at vg ⊢
    rw [X.out]
    exact convs_tab vf vg (fun t _ => bu_conv Rlo Slo Alo Blo t)
  have zm : Zips min f g x := by
    rw [F.out] at vf ⊢
    rw [G.out] at vg ⊢
    rw [X.out] at vx ⊢
    exact zips_tab vf vg vx
  have bf := Lib.hid vf.small
  have bg := Lib.hid vg.small
  have bx := Lib.hid vx.small
  go_enter Try.func5, Try.ntmps5
  go_wp2_with fail
  refine (bucket_yes 3 3 5 2 [0, 7, 12, 17] _ rfl (by decide) (by decide) (by decide) (by decide) (by decide) (by decide) (by decide)).mono ?_
  rintro e w1 ⟨Ax, cx, rfl, ox, bw1⟩
  replace hb := below_trans hb bw1
  have hx := Ints.of_own ox
  clear bw1 ox
  go_wp2_with fail
  refine (equal_at Ax _ [0, 7, 12, 17] [0, 7, 12, 17] _ _ _ _ _ (by exact Ints.alloc hx _) (by exact Ints.lit _ _ _ _ rfl (by decide)) rfl rfl).mono ?_
  rintro e w2 ⟨rfl, nw2, hww2⟩
  have bw2 := below_of_drewN hww2
  clear hww2
  replace bw2 := below_of1 bw2
  replace hb := below_trans hb bw2
  clear bw2
  rw [eqB_true rfl]
  clear hx
  go_wp2_with fail
  refine (within_any h 61 _ (by omega) (by omega)).mono ?_
  rintro e w' ⟨rfl, rfl⟩
  rw [HK.out]
  go_wp2_with fail
  refine (within_any r 5001 _ (by omega) (by omega)).mono ?_
  rintro e w' ⟨rfl, rfl⟩
  rw [← HR.out]
  go_wp2_with fail
  refine (within_any s 5001 _ (by omega) (by omega)).mono ?_
  rintro e w' ⟨rfl, rfl⟩
  rw [← HS.out]
  go_wp2_with fail
  refine (within_any a 100001 _ (by omega) (by omega)).mono ?_
  rintro e w' ⟨rfl, rfl⟩
  rw [← HA.out]
  go_wp2_with fail
  refine (within_any b 100001 _ (by omega) (by omega)).mono ?_
  rintro e w' ⟨rfl, rfl⟩
  rw [← HB.out]
  go_wp2_with fail
  refine (bucket_yes k k R A f _ rfl k60 Rlo (by omega) Alo (by omega) F.out bf.out).mono ?_
  rintro e w3 ⟨Af, cf, rfl, of, bw3⟩
  replace hb := below_trans hb bw3
  have hf := Ints.of_own of
  clear bw3 of
  go_wp2_with fail
  refine (bucket_yes k k S B g _ rfl k60 Slo (by omega) Blo (by omega) G.out bg.out).mono ?_
  rintro e w4 ⟨Ag, cg, rfl, og, bw4⟩
  replace hf := hf.below bw4
  replace hb := below_trans hb bw4
  have hg := Ints.of_own og
  clear bw4 og
  go_wp2_with fail
  refine (conv_yes Af Ag f g x _ _ _ _ _ zx bx.out hf hg rfl rfl).mono ?_
  rintro e w5 ⟨Ax, cx, rfl, ox, bw5⟩
  replace hf := hf.below bw5
  replace hg := hg.below bw5
  replace hb := below_trans hb bw5
  have hx := Ints.of_own ox
  clear bw5 ox
  go_wp2_with fail
  refine (min_ok Af Ag f g x _ _ _ zm hf hg).mono ?_
  rintro e w6 ⟨Ay, cy, rfl, oy, bw6⟩
  replace hx := hx.below bw6
  replace hb := below_trans hb bw6
  have hy := Ints.of_own oy
  clear bw6 oy
  go_wp2_with fail
  refine (equal_at Ax Ay x x _ _ _ _ _ hx hy rfl rfl).mono ?_
  rintro e w7 ⟨rfl, nw7, hww7⟩
  have bw7 := below_of_drewN hww7
  clear hww7
  replace hb := below_trans hb bw7
  clear bw7
  rw [eqB_true rfl]
  go_wp2
  go_ret
  exact ⟨rfl, hb⟩

end Go.Proofs.Ytkjcganbdnbclaa
