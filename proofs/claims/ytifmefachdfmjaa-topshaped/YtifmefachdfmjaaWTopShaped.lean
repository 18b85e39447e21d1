
/-
  The walk of the law TopShaped.
-/
import Derived.Test.YtifmefachdfmjaaLineA
import Derived.Test.YtifmefachdfmjaaTopA
import Derived.Test.YtifmefachdfmjaaTopQ
import Derived.Test.YtifmefachdfmjaaShapeK
import Derived.Test.YtifmefachdfmjaaShaperA
namespace Go.Proofs.Ytifmefachdfmjaa
set_option linter.all false
open Go.RowKit Go.Shelf



set_option maxHeartbeats 3200000 in
theorem walk_TopShaped (a0 : Option Addr) (c0 : Nat) (l0 : List Int) (a1 : Option Addr) (c1 : Nat) (l1 : List Int) (n : Int) (w : World)
    (h0 : Ints w a0 l0) (k0 : l0.length ≤ c0) (h1 : Ints w a1 l1) (k1 : l1.length ≤ c1) (_hn : (Lit.int .i64 n).wf = true) :
    Calls Try.prog 12 #[.slice a0 l0.length c0, .slice a1 l1.length c1, .int .i64 n] w fun e w' => e = .returned (.bool true) ∧ Below w.heap.size w w' := by
  have hb : Below w.heap.size w w := Below.refl _ _
  by_cases hT : trk l0 = 0
  · have v := trk_iff.1 hT
    have hle := v.le
    have HLA : Hid ((adL l0).length = l0.length + 1) := Lib.hid (length_adL _)
    clear hT
    by_cases hC : chk l1 = 0
    · have v1 := cv_of hC
      have HC := Lib.hid hC
      have v0 := ad_cv v
      clear hC
      by_cases hL : l1.length = l0.length + 1
      · have e1 : ((l1.length : Int) != ((adL l0).length : Int)) = false := by rw [HLA.out, hL]; simp
        have e2 : (l1.length != (adL l0).length) = false := by rw [HLA.out, hL]; simp
        obtain ⟨R, hR⟩ : ∃ y, y = wi n 10001 := ⟨_, rfl⟩
        have Rlo : 0 ≤ R := by rw [hR]; exact wi_nonneg _ _ (by omega)
        have Rhi : R < 10001 := by rw [hR]; exact wi_lt n 10001 (by omega)
        have HR := Lib.hid hR
        clear hR
        have e01 : (adL l0).length = l1.length := by rw [HLA.out, hL]
        obtain ⟨cl, x, z⟩ := ex_shap v0 v1 e01
        have Z := Lib.hid z
        have vx := z.r
        have xl : x.length = l0.length + 1 := by rw [z.rlen, HLA.out]
        have XL := Lib.hid xl
        have bg := Lib.hid (li_cv Rlo (show R ≤ 10000 by omega) (Int.le_refl _) v.le).small
        have HLT : Hid ((tab (l0.length + 1) (liV R 0)).length = l0.length + 1) := Lib.hid (length_tab _ _)
        have HL1 := Lib.hid hL
        by_cases hS : sloE x = 0
        · obtain ⟨vs, az⟩ := slo_tr hS
          have HS := Lib.hid hS
          obtain ⟨s, hs⟩ : ∃ s, s = sloL x := ⟨_, rfl⟩
          rw [← hs] at vs az
          have sl : s.length = l0.length := by have := congrArg List.length az; rw [length_adL, xl] at this; omega
          obtain ⟨o, zo, vo⟩ := line_curve (l := x) (r := R) vs az Rlo (by omega)
          obtain ⟨u, zu, vu⟩ := line_curve (l := adL l0) (r := R) v rfl Rlo (by omega)
          rw [sl] at zo
          have ZO := Lib.hid zo
          have ZU := Lib.hid zu
          have ol : o.length = l0.length + 1 := by rw [zo.rlen, xl]
          have ul : u.length = l0.length + 1 := by rw [zu.rlen, HLA.out]
          have hou : Hid (∀ t, t < o.length → gt o t ≤ gt u t) := Lib.hid (fun t ht => conv_le zo zu (fun t ht => z.le t (by rw [xl] at ht; rw [HLA.out]; exact ht)) (by rw [xl, HLA.out]) t (by omega))
          have HOU : Hid (o.length = u.length) := Lib.hid (by omega)
          have OL := Lib.hid ol
          have UL := Lib.hid ul
          have bo := Lib.hid vo.small
          have bu := Lib.hid vu.small
          have HE := Lib.hid (lin_of vs Rlo (show R ≤ 10000 by omega))
          have SL := Lib.hid sl
          have HQ : Hid (chk2 l1 (tab (l0.length + 1) (liV R 0)) = 0) := Lib.hid (chk2_iff.2 ⟨v1, li_cv Rlo (by omega) (Int.le_refl _) v.le, by rw [hL, HLT.out]⟩)
          obtain ⟨B, HB⟩ : ∃ B, Hid (backV l1 (tab (l0.length + 1) (liV R 0)) = B) := ⟨_, Lib.hid rfl⟩
          have hw : Hid (∀ t, t ≤ s.length → waV s R t ≤ B) := Lib.hid (fun t ht => by
            have hf : Fit (adL s) l1 := by rw [az]; exact z.fit
            have := wa_back (a := s) (g := l1) (r := R) hf (by rw [hL, sl]) ht
            rw [sl, HB.out] at this
            exact this)
          have HSS : Hid (sloL x = s) := Lib.hid hs.symm
          clear hL e01 z xl hS az sl zo zu ol ul hs
          go_enter Try.func12, Try.ntmps12
          go_wp2_with fail
          refine (sum_yes' a0 l0 (adL l0) _ (adL l0).length c0 _ v (Lib.hid rfl) h0 rfl HLA.out).mono ?_
          rintro e w1 ⟨Af, cf, rfl, hf, kf, bw1⟩
          replace h0 := h0.below bw1
          replace h1 := h1.below bw1
          replace hb := below_trans hb bw1
          clear bw1
          go_wp2_with fail
          refine (begun_any _).mono ?_
          rintro e w2 ⟨rfl, bw2⟩
          replace h0 := h0.below bw2
          replace h1 := h1.below bw2
          replace hf := hf.below bw2
          replace hb := below_trans hb bw2
          clear bw2
          go_wp2_with fail
          refine (check_any a1 l1 c1 _ h1).mono ?_
          rintro e w' ⟨rfl, rfl⟩
          rw [HC.out]
          go_wp2_with fail
          refine (within_any n 10001 _ (by omega) (by omega)).mono ?_
          rintro e w' ⟨rfl, rfl⟩
          rw [← HR.out]
          go_wp2_with fail
          refine (shaper_yes Af a1 (adL l0) l1 cl x _ _ _ c1 _ Z.out hf h1 k1 rfl rfl).mono ?_
          rintro e w3 ⟨Ax, cx, rfl, ox, bw3⟩
          replace h0 := h0.below bw3
          replace h1 := h1.below bw3
          replace hf := hf.below bw3
          replace hb := below_trans hb bw3
          have hx := Ints.of_own ox
          clear bw3 ox
          go_wp2_with fail
          refine (slots_any Ax x _ _ hx).mono ?_
          rintro e w4 ⟨As, cs, rfl, os, bw4⟩
          replace h1 := h1.below bw4
          replace hf := hf.below bw4
          replace hx := hx.below bw4
          replace hb := below_trans hb bw4
          have hs := Ints.of_own os
          clear bw4 os
          go_wp2_with fail
          refine (line_yes l0.length l0.length R 0 (tab (l0.length + 1) (liV R 0)) _ rfl hle Rlo (by omega) (by omega) (by omega) rfl (bg.out)).mono ?_
          rintro e w5 ⟨Ag, cg, rfl, og, bw5⟩
          replace h1 := h1.below bw5
          replace hf := hf.below bw5
          replace hx := hx.below bw5
          replace hs := hs.below bw5
          replace hb := below_trans hb bw5
          have hg := Ints.of_own og
          clear bw5 og
          rw [HS.out, HSS.out]
          rw [HSS.out] at hs
          go_wp2_with fail
          refine (lrun_yes As s (goL s R) (waL s R) _ s.length _ R _ HE (Lib.hid rfl) (Lib.hid rfl) hs rfl rfl).mono ?_
          rintro e w6 ⟨Ap, cp, Ay, cy, rfl, hp, hy, kp, ky, bw6⟩
          replace h1 := h1.below bw6
          replace hf := hf.below bw6
          replace hx := hx.below bw6
          replace hg := hg.below bw6
          replace hb := below_trans hb bw6
          clear bw6
          go_wp2_with fail
          refine (conv_yes Ax Ag x (tab (l0.length + 1) (liV R 0)) o _ _ _ _ _ ZO.out bo.out hx hg rfl rfl).mono ?_
          rintro e w7 ⟨Ao, co, rfl, oo, bw7⟩
          replace h1 := h1.below bw7
          replace hf := hf.below bw7
          replace hy := hy.below bw7
          replace hg := hg.below bw7
          replace hb := below_trans hb bw7
          have ho := Ints.of_own oo
          clear bw7 oo
          go_wp2_with fail
          refine (conv_yes Af Ag (adL l0) (tab (l0.length + 1) (liV R 0)) u _ _ _ _ _ ZU.out bu.out hf hg rfl rfl).mono ?_
          rintro e w8 ⟨Au, cu, rfl, ou, bw8⟩
          replace h1 := h1.below bw8
          replace hy := hy.below bw8
          replace hg := hg.below bw8
          replace ho := ho.below bw8
          replace hb := below_trans hb bw8
          have hu := Ints.of_own ou
          clear bw8 ou
          go_wp2_with fail
          refine (back_lits a1 Ag l1 (tab (l0.length + 1) (liV R 0)) _ _ _ _ B _ HQ.out HB h1 hg rfl rfl).mono ?_
          rintro e w9 ⟨rfl, bw9⟩
          replace hy := hy.below bw9
          replace ho := ho.below bw9
          replace hu := hu.below bw9
          replace hb := below_trans hb bw9
          clear bw9
          go_wp2_with fail
          refine (tle_yes Ao Au o u _ _ _ _ _ vo vu HOU.out hou.out ho hu rfl rfl).mono ?_
          rintro e w10 ⟨rfl, nw10, hww10⟩
          have bw10 := below_of_drewN hww10
          clear hww10
          replace hy := hy.below bw10
          replace hb := below_trans hb bw10
          clear bw10
          by_cases h00 : s.length = 0
          · have i0 : ((s.length : Int) == 0) = true := by simp [h00]
            have H00 := Lib.hid h00
            clear h00
            go_wp2
            go_ret
            exact ⟨rfl, hb⟩
          · have i0 : ((s.length : Int) == 0) = false := by rw [beq_eq_false_iff_ne]; omega
            have hp : 0 < (waL s R).length := by rw [length_waL]; omega
            obtain ⟨M, hM⟩ : ∃ M, M = maxTo (waL s R) ((waL s R).length - 1) := ⟨_, rfl⟩
            have hMB : M ≤ B := by
              by_cases c : B < M
              · rw [hM] at c
                obtain ⟨i, hi, hgt⟩ := (maxTo_iff _ _ _).1 c
                rw [gt_waL (by rw [length_waL] at hi hp; omega)] at hgt
                have := hw.out (i + 1) (by rw [length_waL] at hi hp; omega)
                omega
              · omega
            have HM := Lib.hid hM
            clear hM h00
            have LW := Lib.hid (length_waL s R)
            go_wp2_with fail
            refine (smax_at Ay (waL s R) _ _ _ hy hp LW.out.symm).mono ?_
            rintro e w' ⟨rfl, rfl⟩
            rw [← HM.out]
            go_wp2
            go_ret
            exact ⟨rfl, hb⟩
        · have t1 : (sloE x != 0) = true := by simp [hS]
          clear hL e01 z xl
          go_enter Try.func12, Try.ntmps12
          go_wp2_with fail
          refine (sum_yes' a0 l0 (adL l0) _ (adL l0).length c0 _ v (Lib.hid rfl) h0 rfl HLA.out).mono ?_
          rintro e w1 ⟨Af, cf, rfl, hf, kf, bw1⟩
          replace h0 := h0.below bw1
          replace h1 := h1.below bw1
          replace hb := below_trans hb bw1
          clear bw1
          go_wp2_with fail
          refine (begun_any _).mono ?_
          rintro e w2 ⟨rfl, bw2⟩
          replace h0 := h0.below bw2
          replace h1 := h1.below bw2
          replace hf := hf.below bw2
          replace hb := below_trans hb bw2
          clear bw2
          go_wp2_with fail
          refine (check_any a1 l1 c1 _ h1).mono ?_
          rintro e w' ⟨rfl, rfl⟩
          rw [HC.out]
          go_wp2_with fail
          refine (within_any n 10001 _ (by omega) (by omega)).mono ?_
          rintro e w' ⟨rfl, rfl⟩
          rw [← HR.out]
          go_wp2_with fail
          refine (shaper_yes Af a1 (adL l0) l1 cl x _ _ _ c1 _ Z.out hf h1 k1 rfl rfl).mono ?_
          rintro e w3 ⟨Ax, cx, rfl, ox, bw3⟩
          replace h0 := h0.below bw3
          replace h1 := h1.below bw3
          replace hf := hf.below bw3
          replace hb := below_trans hb bw3
          have hx := Ints.of_own ox
          clear bw3 ox
          go_wp2_with fail
          refine (slots_any Ax x _ _ hx).mono ?_
          rintro e w4 ⟨As, cs, rfl, os, bw4⟩
          replace h1 := h1.below bw4
          replace hf := hf.below bw4
          replace hx := hx.below bw4
          replace hb := below_trans hb bw4
          have hs := Ints.of_own os
          clear bw4 os
          go_wp2_with fail
          refine (line_yes l0.length l0.length R 0 (tab (l0.length + 1) (liV R 0)) _ rfl hle Rlo (by omega) (by omega) (by omega) rfl (bg.out)).mono ?_
          rintro e w5 ⟨Ag, cg, rfl, og, bw5⟩
          replace h1 := h1.below bw5
          replace hf := hf.below bw5
          replace hx := hx.below bw5
          replace hs := hs.below bw5
          replace hb := below_trans hb bw5
          have hg := Ints.of_own og
          clear bw5 og
          go_wp2
          go_ret
          exact ⟨rfl, hb⟩
      · have e1 : ((l1.length : Int) != ((adL l0).length : Int)) = true := by rw [HLA.out]; simp; omega
        have e2 : (l1.length != (adL l0).length) = true := by rw [HLA.out]; simp; exact hL
        clear hL
        go_enter Try.func12, Try.ntmps12
        go_wp2_with fail
        refine (sum_yes' a0 l0 (adL l0) _ (adL l0).length c0 _ v (Lib.hid rfl) h0 rfl HLA.out).mono ?_
        rintro e w1 ⟨Af, cf, rfl, hf, kf, bw1⟩
        replace h0 := h0.below bw1
        replace h1 := h1.below bw1
        replace hb := below_trans hb bw1
        clear bw1
        go_wp2_with fail
        refine (begun_any _).mono ?_
        rintro e w2 ⟨rfl, bw2⟩
        replace h0 := h0.below bw2
        replace h1 := h1.below bw2
        replace hf := hf.below bw2
        replace hb := below_trans hb bw2
        clear bw2
        go_wp2_with fail
        refine (check_any a1 l1 c1 _ h1).mono ?_
        rintro e w' ⟨rfl, rfl⟩
        rw [HC.out]
        go_wp2_with fail
        refine (begun_any _).mono ?_
        rintro e w3 ⟨rfl, bw3⟩
        replace hb := below_trans hb bw3
        clear bw3
        go_wp2
        go_ret
        exact ⟨rfl, hb⟩
    · have t1 : (chk l1 != 0) = true := by simp [hC]
      clear hC
      go_enter Try.func12, Try.ntmps12
      go_wp2_with fail
      refine (sum_yes' a0 l0 (adL l0) _ (adL l0).length c0 _ v (Lib.hid rfl) h0 rfl HLA.out).mono ?_
      rintro e w1 ⟨Af, cf, rfl, hf, kf, bw1⟩
      replace h0 := h0.below bw1
      replace h1 := h1.below bw1
      replace hb := below_trans hb bw1
      clear bw1
      go_wp2_with fail
      refine (begun_any _).mono ?_
      rintro e w2 ⟨rfl, bw2⟩
      replace h0 := h0.below bw2
      replace h1 := h1.below bw2
      replace hf := hf.below bw2
      replace hb := below_trans hb bw2
      clear bw2
      go_wp2_with fail
      refine (check_any a1 l1 c1 _ h1).mono ?_
      rintro e w' ⟨rfl, rfl⟩
      go_wp2_with fail
      refine (begun_any _).mono ?_
      rintro e w3 ⟨rfl, bw3⟩
      replace hb := below_trans hb bw3
      clear bw3
      go_wp2
      go_ret
      exact ⟨rfl, hb⟩
  · have e1 : (trk l0 != 0) = true := by simp [hT]
    clear hT
    go_enter Try.func12, Try.ntmps12
    go_wp2_with fail
    refine (trSum_any a0 l0 c0 _ h0).mono ?_
    rintro e w1 ⟨Af, cf, rfl, of, bw1⟩
    replace h0 := h0.below bw1
    replace h1 := h1.below bw1
    replace hb := below_trans hb bw1
    have hf := Ints.of_own of
    clear bw1 of
    go_wp2_with fail
    refine (begun_any _).mono ?_
    rintro e w2 ⟨rfl, bw2⟩
    replace h0 := h0.below bw2
    replace h1 := h1.below bw2
    replace hb := below_trans hb bw2
    clear bw2
    go_wp2_with fail
    refine (begun_any _).mono ?_
    rintro e w3 ⟨rfl, bw3⟩
    replace hb := below_trans hb bw3
    clear bw3
    go_wp2
    go_ret
    exact ⟨rfl, hb⟩

end Go.Proofs.Ytifmefachdfmjaa
