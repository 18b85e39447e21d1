
/-
  The walk of the law PrioLeaves.
-/
import Derived.Test.YthngolnflogdnaaPrioA
import Derived.Test.YthngolnflogdnaaBoundK
namespace Go.Proofs.Ythngolnflogdnaa
set_option linter.all false
open Go.RowKit Go.Shelf


set_option maxRecDepth 100000 in
set_option maxHeartbeats 3200000 in
theorem walk_PrioLeaves (a0 : Option Addr) (c0 : Nat) (l0 : List Int) (a1 : Option Addr) (c1 : Nat) (l1 : List Int) (a2 : Option Addr) (c2 : Nat) (l2 : List Int) (n : Int) (w : World)
    (h0 : Ints w a0 l0) (k0 : l0.length ≤ c0) (h1 : Ints w a1 l1) (k1 : l1.length ≤ c1) (h2 : Ints w a2 l2) (k2 : l2.length ≤ c2) (_hn : (Lit.int .i64 n).wf = true) :
    Calls Try.prog 6 #[.slice a0 l0.length c0, .slice a1 l1.length c1, .slice a2 l2.length c2, .int .i64 n] w fun e w' => e = .returned (.bool true) ∧ Below w.heap.size w w' := by
  have hb : Below w.heap.size w w := Below.refl _ _
  clear _hn
  by_cases hE : prE l0 l1 n = 0
  · obtain ⟨va, vb, r0, r1, el, hl⟩ := pr_ok hE
    have HE := Lib.hid hE
    have hle := va.le
    have hle1 := vb.le
    have HLA : Hid ((adL l0).length = l0.length + 1) := Lib.hid (length_adL _)
    have HLB : Hid ((adL l1).length = l1.length + 1) := Lib.hid (length_adL _)
    cases t1 : okB (adL l0) l2
    · have T1 := Lib.hid t1
      clear t1 hE hl el
      go_enter Try.func6, Try.ntmps6
      go_wp2_with fail
      refine (left_yes _ [0, 3, 4] [0, 0, 0] _ _ 2 _ (Lib.hid (by decide)) (Lib.hid (by decide)) (by exact Ints.lit _ [0, 3, 4] _ _ rfl (by decide)) rfl).mono ?_
      rintro e w1 ⟨Ax, cx, rfl, ox, bw1⟩
      replace bw1 := below_of1 bw1
      replace h0 := h0.below bw1
      replace h1 := h1.below bw1
      replace h2 := h2.below bw1
      replace hb := below_trans hb bw1
      have hx := Ints.of_own ox
      clear bw1 ox
      go_wp2_with fail
      refine (equal_at Ax _ [0, 0, 0] [0, 0, 0] _ _ _ _ _ (by exact Ints.alloc hx _) (by exact Ints.lit _ [0, 0, 0] _ _ rfl (by decide)) rfl rfl).mono ?_
      rintro e w2 ⟨rfl, nw2, hww2⟩
      have bw2 := below_of_drewN hww2
      clear hww2
      replace bw2 := below_of1 bw2
      replace h0 := h0.below bw2
      replace h1 := h1.below bw2
      replace h2 := h2.below bw2
      replace hb := below_trans hb bw2
      clear bw2
      rw [eqB_true rfl]
      clear hx
      go_wp2_with fail
      refine (left_yes _ [0, 1, 1] [0, 1, 3] _ _ 2 _ (Lib.hid (by decide)) (Lib.hid (by decide)) (by exact Ints.lit _ [0, 1, 1] _ _ rfl (by decide)) rfl).mono ?_
      rintro e w3 ⟨Ax, cx, rfl, ox, bw3⟩
      replace bw3 := below_of1 bw3
      replace h0 := h0.below bw3
      replace h1 := h1.below bw3
      replace h2 := h2.below bw3
      replace hb := below_trans hb bw3
      have hx := Ints.of_own ox
      clear bw3 ox
      go_wp2_with fail
      refine (equal_at Ax _ [0, 1, 3] [0, 1, 3] _ _ _ _ _ (by exact Ints.alloc hx _) (by exact Ints.lit _ [0, 1, 3] _ _ rfl (by decide)) rfl rfl).mono ?_
      rintro e w4 ⟨rfl, nw4, hww4⟩
      have bw4 := below_of_drewN hww4
      clear hww4
      replace bw4 := below_of1 bw4
      replace h0 := h0.below bw4
      replace h1 := h1.below bw4
      replace h2 := h2.below bw4
      replace hb := below_trans hb bw4
      clear bw4
      rw [eqB_true rfl]
      clear hx
      go_wp2_with fail
      refine (prun_yes a0 a1 l0 l1 (goL l0 n) (gbL l0 l1 n) _ _ l0.length c0 c1 n _ HE (Lib.hid rfl) (Lib.hid rfl) h0 h1 rfl rfl rfl).mono ?_
      rintro e w5 ⟨Ax, cx, Ay, cy, rfl, hx, hy, kx, ky, bw5⟩
      replace h0 := h0.below bw5
      replace h1 := h1.below bw5
      replace h2 := h2.below bw5
      replace hb := below_trans hb bw5
      clear bw5
      go_wp2_with fail
      refine (sum_yes' a0 l0 (adL l0) _ (adL l0).length c0 _ va (Lib.hid rfl) h0 rfl HLA.out).mono ?_
      rintro e w6 ⟨Af, cf, rfl, hf, kf, bw6⟩
      replace h0 := h0.below bw6
      replace h1 := h1.below bw6
      replace h2 := h2.below bw6
      replace hy := hy.below bw6
      replace hb := below_trans hb bw6
      clear bw6
      go_wp2_with fail
      refine (sum_yes' a1 l1 (adL l1) _ (adL l1).length c1 _ vb (Lib.hid rfl) h1 rfl HLB.out).mono ?_
      rintro e w7 ⟨Ag, cg, rfl, hg, kg, bw7⟩
      replace h0 := h0.below bw7
      replace h1 := h1.below bw7
      replace h2 := h2.below bw7
      replace hf := hf.below bw7
      replace hy := hy.below bw7
      replace hb := below_trans hb bw7
      clear bw7
      go_wp2_with fail
      refine (both_any Af a2 (adL l0) l2 _ c2 _ hf h2).mono ?_
      rintro e w' ⟨rfl, rfl⟩
      rw [T1.out]
      go_wp2
      go_ret
      exact ⟨rfl, hb⟩
    · obtain ⟨v0, v2, e02⟩ := chk2_iff.1 (chk2_of_okB t1)
      have T1 := Lib.hid t1
      have E02 := Lib.hid e02
      have hF := lf_of v2 r0 r1
      have HF := Lib.hid hF
      have vg := tr_gb va vb r0 r1 el
      have LG : Hid ((gbL l0 l1 n).length = l0.length) := Lib.hid (length_gbL _ _ _)
      have LD : Hid ((adL (gbL l0 l1 n)).length = (gbL l0 l1 n).length + 1) := Lib.hid (length_adL _)
      have hl2 : l2.length = l0.length + 1 := by rw [← e02, HLA.out]
      obtain ⟨X, zX⟩ := ex_conv (ad_cv vb) (left_is v2 r0 r1).r (by rw [HLB.out, length_leftL, hl2, el])
      have vX := left_small vb v2 r0 r1 zX
      have ZX := Lib.hid zX
      have bX := Lib.hid vX.small
      have KX : Hid (fitB (adL l0) l2 = true → leK X (adL (gbL l0 l1 n)) = true) := Lib.hid (fun q => by
        have hf : Fit (adL l0) l2 := (fitB_iff v0 v2 e02).1 q
        refine (leK_iff vX (ad_cv vg) (by rw [zX.rlen, HLB.out, LD.out, LG.out, el])).2 (fun t ht => ?_)
        rw [zX.rlen, HLB.out] at ht
        rw [gt_adL (by rw [LG.out]; omega)]
        exact left_conv va vb r0 r1 el hf hl2 zX (by omega))
      clear t1 hE hl el e02 hF zX hl2
      cases s : fitB (adL l0) l2
      · have S1 : Hid (Hid (fitB (adL l0) l2 = false)) := Lib.hid (Lib.hid s)
        clear s
        go_enter Try.func6, Try.ntmps6
        go_wp2_with fail
        refine (left_yes _ [0, 3, 4] [0, 0, 0] _ _ 2 _ (Lib.hid (by decide)) (Lib.hid (by decide)) (by exact Ints.lit _ [0, 3, 4] _ _ rfl (by decide)) rfl).mono ?_
        rintro e w1 ⟨Ax, cx, rfl, ox, bw1⟩
        replace bw1 := below_of1 bw1
        replace h0 := h0.below bw1
        replace h1 := h1.below bw1
        replace h2 := h2.below bw1
        replace hb := below_trans hb bw1
        have hx := Ints.of_own ox
        clear bw1 ox
        go_wp2_with fail
        refine (equal_at Ax _ [0, 0, 0] [0, 0, 0] _ _ _ _ _ (by exact Ints.alloc hx _) (by exact Ints.lit _ [0, 0, 0] _ _ rfl (by decide)) rfl rfl).mono ?_
        rintro e w2 ⟨rfl, nw2, hww2⟩
        have bw2 := below_of_drewN hww2
        clear hww2
        replace bw2 := below_of1 bw2
        replace h0 := h0.below bw2
        replace h1 := h1.below bw2
        replace h2 := h2.below bw2
        replace hb := below_trans hb bw2
        clear bw2
        rw [eqB_true rfl]
        clear hx
        go_wp2_with fail
        refine (left_yes _ [0, 1, 1] [0, 1, 3] _ _ 2 _ (Lib.hid (by decide)) (Lib.hid (by decide)) (by exact Ints.lit _ [0, 1, 1] _ _ rfl (by decide)) rfl).mono ?_
        rintro e w3 ⟨Ax, cx, rfl, ox, bw3⟩
        replace bw3 := below_of1 bw3
        replace h0 := h0.below bw3
        replace h1 := h1.below bw3
        replace h2 := h2.below bw3
        replace hb := below_trans hb bw3
        have hx := Ints.of_own ox
        clear bw3 ox
        go_wp2_with fail
        refine (equal_at Ax _ [0, 1, 3] [0, 1, 3] _ _ _ _ _ (by exact Ints.alloc hx _) (by exact Ints.lit _ [0, 1, 3] _ _ rfl (by decide)) rfl rfl).mono ?_
        rintro e w4 ⟨rfl, nw4, hww4⟩
        have bw4 := below_of_drewN hww4
        clear hww4
        replace bw4 := below_of1 bw4
        replace h0 := h0.below bw4
        replace h1 := h1.below bw4
        replace h2 := h2.below bw4
        replace hb := below_trans hb bw4
        clear bw4
        rw [eqB_true rfl]
        clear hx
        go_wp2_with fail
        refine (prun_yes a0 a1 l0 l1 (goL l0 n) (gbL l0 l1 n) _ _ l0.length c0 c1 n _ HE (Lib.hid rfl) (Lib.hid rfl) h0 h1 rfl rfl rfl).mono ?_
        rintro e w5 ⟨Ax, cx, Ay, cy, rfl, hx, hy, kx, ky, bw5⟩
        replace h0 := h0.below bw5
        replace h1 := h1.below bw5
        replace h2 := h2.below bw5
        replace hb := below_trans hb bw5
        clear bw5
        go_wp2_with fail
        refine (sum_yes' a0 l0 (adL l0) _ (adL l0).length c0 _ va (Lib.hid rfl) h0 rfl HLA.out).mono ?_
        rintro e w6 ⟨Af, cf, rfl, hf, kf, bw6⟩
        replace h0 := h0.below bw6
        replace h1 := h1.below bw6
        replace h2 := h2.below bw6
        replace hy := hy.below bw6
        replace hb := below_trans hb bw6
        clear bw6
        go_wp2_with fail
        refine (sum_yes' a1 l1 (adL l1) _ (adL l1).length c1 _ vb (Lib.hid rfl) h1 rfl HLB.out).mono ?_
        rintro e w7 ⟨Ag, cg, rfl, hg, kg, bw7⟩
        replace h0 := h0.below bw7
        replace h1 := h1.below bw7
        replace h2 := h2.below bw7
        replace hf := hf.below bw7
        replace hy := hy.below bw7
        replace hb := below_trans hb bw7
        clear bw7
        go_wp2_with fail
        refine (both_any Af a2 (adL l0) l2 _ c2 _ hf h2).mono ?_
        rintro e w' ⟨rfl, rfl⟩
        rw [T1.out]
        go_wp2_with fail
        refine (fits_yes Af a2 (adL l0) l2 _ _ _ c2 false _ v0 v2 E02.out S1.out hf h2 kf rfl rfl).mono ?_
        rintro e w8 ⟨rfl, bw8⟩
        replace h2 := h2.below bw8
        replace hg := hg.below bw8
        replace hy := hy.below bw8
        replace hb := below_trans hb bw8
        clear bw8
        go_wp2_with fail
        refine (left_yes a2 l2 (leftL l2 n) _ c2 n _ HF (Lib.hid rfl) h2 rfl).mono ?_
        rintro e w9 ⟨Al, cl, rfl, ol, bw9⟩
        replace hg := hg.below bw9
        replace hy := hy.below bw9
        replace hb := below_trans hb bw9
        have hl := Ints.of_own ol
        clear bw9 ol
        go_wp2_with fail
        refine (sum_yes' Ay (gbL l0 l1 n) (adL (gbL l0 l1 n)) _ (adL (gbL l0 l1 n)).length _ _ vg (Lib.hid rfl) hy LG.out.symm LD.out).mono ?_
        rintro e w10 ⟨Ad, cd, rfl, hd, kd, bw10⟩
        replace hg := hg.below bw10
        replace hl := hl.below bw10
        replace hb := below_trans hb bw10
        clear bw10
        go_wp2_with fail
        refine (conv_yes Ag Al (adL l1) (leftL l2 n) X _ _ _ _ _ ZX.out bX.out hg hl rfl rfl).mono ?_
        rintro e w11 ⟨Az, cz, rfl, oz, bw11⟩
        replace hd := hd.below bw11
        replace hb := below_trans hb bw11
        have hz := Ints.of_own oz
        clear bw11 oz
        go_wp2
        go_ret
        exact ⟨rfl, hb⟩
      · have S1 : Hid (Hid (fitB (adL l0) l2 = true)) := Lib.hid (Lib.hid s)
        have K1 := Lib.hid (KX.out s)
        clear s
        go_enter Try.func6, Try.ntmps6
        go_wp2_with fail
        refine (left_yes _ [0, 3, 4] [0, 0, 0] _ _ 2 _ (Lib.hid (by decide)) (Lib.hid (by decide)) (by exact Ints.lit _ [0, 3, 4] _ _ rfl (by decide)) rfl).mono ?_
        rintro e w1 ⟨Ax, cx, rfl, ox, bw1⟩
        replace bw1 := below_of1 bw1
        replace h0 := h0.below bw1
        replace h1 := h1.below bw1
        replace h2 := h2.below bw1
        replace hb := below_trans hb bw1
        have hx := Ints.of_own ox
        clear bw1 ox
        go_wp2_with fail
        refine (equal_at Ax _ [0, 0, 0] [0, 0, 0] _ _ _ _ _ (by exact Ints.alloc hx _) (by exact Ints.lit _ [0, 0, 0] _ _ rfl (by decide)) rfl rfl).mono ?_
        rintro e w2 ⟨rfl, nw2, hww2⟩
        have bw2 := below_of_drewN hww2
        clear hww2
        replace bw2 := below_of1 bw2
        replace h0 := h0.below bw2
        replace h1 := h1.below bw2
        replace h2 := h2.below bw2
        replace hb := below_trans hb bw2
        clear bw2
        rw [eqB_true rfl]
        clear hx
        go_wp2_with fail
        refine (left_yes _ [0, 1, 1] [0, 1, 3] _ _ 2 _ (Lib.hid (by decide)) (Lib.hid (by decide)) (by exact Ints.lit _ [0, 1, 1] _ _ rfl (by decide)) rfl).mono ?_
        rintro e w3 ⟨Ax, cx, rfl, ox, bw3⟩
        replace bw3 := below_of1 bw3
        replace h0 := h0.below bw3
        replace h1 := h1.below bw3
        replace h2 := h2.below bw3
        replace hb := below_trans hb bw3
        have hx := Ints.of_own ox
        clear bw3 ox
        go_wp2_with fail
        refine (equal_at Ax _ [0, 1, 3] [0, 1, 3] _ _ _ _ _ (by exact Ints.alloc hx _) (by exact Ints.lit _ [0, 1, 3] _ _ rfl (by decide)) rfl rfl).mono ?_
        rintro e w4 ⟨rfl, nw4, hww4⟩
        have bw4 := below_of_drewN hww4
        clear hww4
        replace bw4 := below_of1 bw4
        replace h0 := h0.below bw4
        replace h1 := h1.below bw4
        replace h2 := h2.below bw4
        replace hb := below_trans hb bw4
        clear bw4
        rw [eqB_true rfl]
        clear hx
        go_wp2_with fail
        refine (prun_yes a0 a1 l0 l1 (goL l0 n) (gbL l0 l1 n) _ _ l0.length c0 c1 n _ HE (Lib.hid rfl) (Lib.hid rfl) h0 h1 rfl rfl rfl).mono ?_
        rintro e w5 ⟨Ax, cx, Ay, cy, rfl, hx, hy, kx, ky, bw5⟩
        replace h0 := h0.below bw5
        replace h1 := h1.below bw5
        replace h2 := h2.below bw5
        replace hb := below_trans hb bw5
        clear bw5
        go_wp2_with fail
        refine (sum_yes' a0 l0 (adL l0) _ (adL l0).length c0 _ va (Lib.hid rfl) h0 rfl HLA.out).mono ?_
        rintro e w6 ⟨Af, cf, rfl, hf, kf, bw6⟩
        replace h0 := h0.below bw6
        replace h1 := h1.below bw6
        replace h2 := h2.below bw6
        replace hy := hy.below bw6
        replace hb := below_trans hb bw6
        clear bw6
        go_wp2_with fail
        refine (sum_yes' a1 l1 (adL l1) _ (adL l1).length c1 _ vb (Lib.hid rfl) h1 rfl HLB.out).mono ?_
        rintro e w7 ⟨Ag, cg, rfl, hg, kg, bw7⟩
        replace h0 := h0.below bw7
        replace h1 := h1.below bw7
        replace h2 := h2.below bw7
        replace hf := hf.below bw7
        replace hy := hy.below bw7
        replace hb := below_trans hb bw7
        clear bw7
        go_wp2_with fail
        refine (both_any Af a2 (adL l0) l2 _ c2 _ hf h2).mono ?_
        rintro e w' ⟨rfl, rfl⟩
        rw [T1.out]
        go_wp2_with fail
        refine (fits_yes Af a2 (adL l0) l2 _ _ _ c2 true _ v0 v2 E02.out S1.out hf h2 kf rfl rfl).mono ?_
        rintro e w8 ⟨rfl, bw8⟩
        replace h2 := h2.below bw8
        replace hg := hg.below bw8
        replace hy := hy.below bw8
        replace hb := below_trans hb bw8
        clear bw8
        go_wp2_with fail
        refine (left_yes a2 l2 (leftL l2 n) _ c2 n _ HF (Lib.hid rfl) h2 rfl).mono ?_
        rintro e w9 ⟨Al, cl, rfl, ol, bw9⟩
        replace hg := hg.below bw9
        replace hy := hy.below bw9
        replace hb := below_trans hb bw9
        have hl := Ints.of_own ol
        clear bw9 ol
        go_wp2_with fail
        refine (sum_yes' Ay (gbL l0 l1 n) (adL (gbL l0 l1 n)) _ (adL (gbL l0 l1 n)).length _ _ vg (Lib.hid rfl) hy LG.out.symm LD.out).mono ?_
        rintro e w10 ⟨Ad, cd, rfl, hd, kd, bw10⟩
        replace hg := hg.below bw10
        replace hl := hl.below bw10
        replace hb := below_trans hb bw10
        clear bw10
        go_wp2_with fail
        refine (conv_yes Ag Al (adL l1) (leftL l2 n) X _ _ _ _ _ ZX.out bX.out hg hl rfl rfl).mono ?_
        rintro e w11 ⟨Az, cz, rfl, oz, bw11⟩
        replace hd := hd.below bw11
        replace hb := below_trans hb bw11
        have hz := Ints.of_own oz
        clear bw11 oz
        go_wp2_with fail
        refine (kle_at Az Ad X (adL (gbL l0 l1 n)) _ _ _ _ _ hz hd rfl rfl).mono ?_
        rintro e w12 ⟨rfl, nw12, hww12⟩
        have bw12 := below_of_drewN hww12
        clear hww12
        replace hb := below_trans hb bw12
        clear bw12
        rw [K1.out]
        go_wp2
        go_ret
        exact ⟨rfl, hb⟩
  · have e1 : (prE l0 l1 n != 0) = true := by simp [hE]
    go_enter Try.func6, Try.ntmps6
    go_wp2_with fail
    refine (left_yes _ [0, 3, 4] [0, 0, 0] _ _ 2 _ (Lib.hid (by decide)) (Lib.hid (by decide)) (by exact Ints.lit _ [0, 3, 4] _ _ rfl (by decide)) rfl).mono ?_
    rintro e w1 ⟨Ax, cx, rfl, ox, bw1⟩
    replace bw1 := below_of1 bw1
    replace h0 := h0.below bw1
    replace h1 := h1.below bw1
    replace h2 := h2.below bw1
    replace hb := below_trans hb bw1
    have hx := Ints.of_own ox
    clear bw1 ox
    go_wp2_with fail
    refine (equal_at Ax _ [0, 0, 0] [0, 0, 0] _ _ _ _ _ (by exact Ints.alloc hx _) (by exact Ints.lit _ [0, 0, 0] _ _ rfl (by decide)) rfl rfl).mono ?_
    rintro e w2 ⟨rfl, nw2, hww2⟩
    have bw2 := below_of_drewN hww2
    clear hww2
    replace bw2 := below_of1 bw2
    replace h0 := h0.below bw2
    replace h1 := h1.below bw2
    replace h2 := h2.below bw2
    replace hb := below_trans hb bw2
    clear bw2
    rw [eqB_true rfl]
    clear hx
    go_wp2_with fail
    refine (left_yes _ [0, 1, 1] [0, 1, 3] _ _ 2 _ (Lib.hid (by decide)) (Lib.hid (by decide)) (by exact Ints.lit _ [0, 1, 1] _ _ rfl (by decide)) rfl).mono ?_
    rintro e w3 ⟨Ax, cx, rfl, ox, bw3⟩
    replace bw3 := below_of1 bw3
    replace h0 := h0.below bw3
    replace h1 := h1.below bw3
    replace h2 := h2.below bw3
    replace hb := below_trans hb bw3
    have hx := Ints.of_own ox
    clear bw3 ox
    go_wp2_with fail
    refine (equal_at Ax _ [0, 1, 3] [0, 1, 3] _ _ _ _ _ (by exact Ints.alloc hx _) (by exact Ints.lit _ [0, 1, 3] _ _ rfl (by decide)) rfl rfl).mono ?_
    rintro e w4 ⟨rfl, nw4, hww4⟩
    have bw4 := below_of_drewN hww4
    clear hww4
    replace bw4 := below_of1 bw4
    replace h0 := h0.below bw4
    replace h1 := h1.below bw4
    replace h2 := h2.below bw4
    replace hb := below_trans hb bw4
    clear bw4
    rw [eqB_true rfl]
    clear hx
    go_wp2_with fail
    refine (prun_no a0 a1 l0 l1 c0 c1 n _ hE h0 h1).mono ?_
    rintro e w5 ⟨Ax, cx, Ay, cy, rfl, bx⟩
    replace h0 := h0.below bx
    replace h1 := h1.below bx
    replace hb := below_trans hb bx
    clear bx
    go_wp2_with fail
    refine (trSum_any a0 l0 c0 _ h0).mono ?_
    rintro e w6 ⟨Af, cf, rfl, of, bw6⟩
    replace h1 := h1.below bw6
    replace hb := below_trans hb bw6
    have hf := Ints.of_own of
    clear bw6 of
    go_wp2_with fail
    refine (trSum_any a1 l1 c1 _ h1).mono ?_
    rintro e w7 ⟨Ag, cg, rfl, og, bw7⟩
    replace hb := below_trans hb bw7
    have hg := Ints.of_own og
    clear bw7 og
    go_wp2
    go_ret
    exact ⟨rfl, hb⟩

end Go.Proofs.Ythngolnflogdnaa
