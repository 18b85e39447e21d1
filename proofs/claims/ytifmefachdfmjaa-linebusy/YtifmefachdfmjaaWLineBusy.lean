
/-
  The walk of the law LineBusy.
-/
import Derived.Test.YtifmefachdfmjaaLineA
import Derived.Test.YtifmefachdfmjaaBoundK
namespace Go.Proofs.Ytifmefachdfmjaa
set_option linter.all false
open Go.RowKit Go.Shelf



set_option maxHeartbeats 3200000 in
theorem walk_LineBusy (a0 : Option Addr) (c0 : Nat) (l0 : List Int) (a1 : Option Addr) (c1 : Nat) (l1 : List Int) (m n : Int) (w : World)
    (h0 : Ints w a0 l0) (k0 : l0.length ≤ c0) (h1 : Ints w a1 l1) (k1 : l1.length ≤ c1) (_hm : (Lit.int .i64 m).wf = true) (_hn : (Lit.int .i64 n).wf = true) :
    Calls Try.prog 7 #[.slice a0 l0.length c0, .slice a1 l1.length c1, .int .i64 m, .int .i64 n] w fun e w' => e = .returned (.bool true) ∧ Below w.heap.size w w' := by
  have hb : Below w.heap.size w w := Below.refl _ _
  by_cases hT : trk l0 = 0
  · have v := trk_iff.1 hT
    have hle := v.le
    cases t1 : okB (adL l0) l1
    · have T1 := Lib.hid t1
      have HLA : Hid ((adL l0).length = l0.length + 1) := Lib.hid (length_adL _)
      clear t1 hT
      go_enter Try.func7, Try.ntmps7
      go_wp2_with fail
      refine (busy_yes _ [5, 0, 0, 3] _ _ 2 2 _ (Lib.hid (by decide)) (Lib.hid (by decide)) (by exact Ints.lit _ [5, 0, 0, 3] _ _ rfl (by decide)) rfl).mono ?_
      rintro e w1 ⟨rfl, bw1⟩
      replace bw1 := below_of1 bw1
      replace h0 := h0.below bw1
      replace h1 := h1.below bw1
      replace hb := below_trans hb bw1
      clear bw1
      go_wp2_with fail
      refine (sum_yes' a0 l0 (adL l0) _ (adL l0).length c0 _ v (Lib.hid rfl) h0 rfl HLA.out).mono ?_
      rintro e w2 ⟨Af, cf, rfl, hf, kf, bw2⟩
      replace h0 := h0.below bw2
      replace h1 := h1.below bw2
      replace hb := below_trans hb bw2
      clear bw2
      go_wp2_with fail
      refine (both_any Af a1 (adL l0) l1 _ c1 _ hf h1).mono ?_
      rintro e w' ⟨rfl, rfl⟩
      rw [T1.out]
      go_wp2
      go_ret
      exact ⟨rfl, hb⟩
    · obtain ⟨v0, v1, e01⟩ := chk2_iff.1 (chk2_of_okB t1)
      have T1 := Lib.hid t1
      have HLA : Hid ((adL l0).length = l0.length + 1) := Lib.hid (length_adL _)
      have hp1 := v1.pos
      have hle1 := v1.le
      obtain ⟨R, hR⟩ : ∃ y, y = wi m 10001 := ⟨_, rfl⟩
      have Rlo : 0 ≤ R := by rw [hR]; exact wi_nonneg _ _ (by omega)
      have Rhi : R < 10001 := by rw [hR]; exact wi_lt m 10001 (by omega)
      have HR := Lib.hid hR
      clear hR
      obtain ⟨d, hd⟩ := Int.eq_ofNat_of_zero_le (wi_nonneg n (l1.length : Int) (by omega))
      have dl : d < l1.length := by have := wi_lt n (l1.length : Int) (by omega); omega
      have HD := Lib.hid hd
      have hE := lin_of v Rlo (by omega)
      have HE := Lib.hid hE
      obtain ⟨N, HN⟩ : ∃ N, Hid (lonZ l0 R l0.length = N) := ⟨_, Lib.hid rfl⟩
      obtain ⟨s, hs⟩ : ∃ s, s = fitB (adL l0) l1 := ⟨_, rfl⟩
      have S1 : Hid (Hid (fitB (adL l0) l1 = s)) := Lib.hid (Lib.hid hs.symm)
      obtain ⟨b1, o1, x, e1, hc1, HX⟩ := h1.at_ (k := d) dl
      have x0 : 0 ≤ x := by rw [← gt_of_get HX.out]; exact v1.lo d dl
      have x1 : x ≤ 1000000 := by rw [← gt_of_get HX.out]; exact v1.hi d dl
      obtain ⟨P, hP⟩ : ∃ P, P = R * (d : Int) := ⟨_, rfl⟩
      have P0 : 0 ≤ P := by rw [hP]; exact Int.mul_nonneg Rlo (by omega)
      have P1 : P ≤ 610000 := by rw [hP]; have := Int.mul_le_mul (show R ≤ 10000 by omega) (show (d : Int) ≤ 61 by omega) (by omega) (by omega); omega
      have key : s = true → ¬ d = 0 → x ≤ P → N < d := fun q1 q2 q3 => by
        have hf : Fit (adL l0) l1 := (fitB_iff v0 v1 e01).1 (by rw [← hs]; exact q1)
        have hz := lon_is l0 R
        rw [HN.out] at hz
        obtain ⟨i, hi⟩ := hz.hit
        by_cases c : d ≤ N
        · exact absurd ⟨by have := hi.1; omega, fun j hj => hi.2 j (by omega)⟩ (busy_less (a := l0) (g := l1) (r := R) (i := i) (d := d) hf (by omega) (by rw [gt_of_get HX.out, ← hP]; exact q3))
        · omega
      have HK := Lib.hid key
      have E01 := Lib.hid e01
      have i1 : (d : Int) < (l1.length : Int) := by omega
      have s1 : IntKind.i64.wrap (R * (d : Int)) = P := by rw [← hP]; exact IntWalk.i64_in _ ⟨by omega, by omega⟩
      have HP : Hid (P = R * (d : Int)) := Lib.hid hP
      clear t1 hT hd hE hs key e01 e1 hc1 hP s1
      cases s
      · go_enter Try.func7, Try.ntmps7
        go_wp2_with fail
        refine (busy_yes _ [5, 0, 0, 3] _ _ 2 2 _ (Lib.hid (by decide)) (Lib.hid (by decide)) (by exact Ints.lit _ [5, 0, 0, 3] _ _ rfl (by decide)) rfl).mono ?_
        rintro e w1 ⟨rfl, bw1⟩
        replace bw1 := below_of1 bw1
        replace h0 := h0.below bw1
        replace h1 := h1.below bw1
        replace hb := below_trans hb bw1
        clear bw1
        go_wp2_with fail
        refine (sum_yes' a0 l0 (adL l0) _ (adL l0).length c0 _ v (Lib.hid rfl) h0 rfl HLA.out).mono ?_
        rintro e w2 ⟨Af, cf, rfl, hf, kf, bw2⟩
        replace h0 := h0.below bw2
        replace h1 := h1.below bw2
        replace hb := below_trans hb bw2
        clear bw2
        go_wp2_with fail
        refine (both_any Af a1 (adL l0) l1 _ c1 _ hf h1).mono ?_
        rintro e w' ⟨rfl, rfl⟩
        rw [T1.out]
        go_wp2_with fail
        refine (within_any m 10001 _ (by omega) (by omega)).mono ?_
        rintro e w' ⟨rfl, rfl⟩
        rw [← HR.out]
        go_wp2_with fail
        refine (within_any n (l1.length : Int) _ (by omega) (by omega)).mono ?_
        rintro e w' ⟨rfl, rfl⟩
        rw [HD.out]
        go_wp2_with fail
        refine (fits_yes Af a1 (adL l0) l1 _ _ _ c1 false _ v0 v1 E01.out S1.out hf h1 kf rfl rfl).mono ?_
        rintro e w3 ⟨rfl, bw3⟩
        replace h0 := h0.below bw3
        replace h1 := h1.below bw3
        replace hb := below_trans hb bw3
        clear bw3
        go_wp2_with fail
        refine (busy_yes a0 l0 _ c0 R N _ HE HN h0 rfl).mono ?_
        rintro e w4 ⟨rfl, bw4⟩
        replace h1 := h1.below bw4
        replace hb := below_trans hb bw4
        clear bw4
        go_wp2
        go_ret
        exact ⟨rfl, hb⟩
      by_cases d0 : d = 0
      · subst d0
        go_enter Try.func7, Try.ntmps7
        go_wp2_with fail
        refine (busy_yes _ [5, 0, 0, 3] _ _ 2 2 _ (Lib.hid (by decide)) (Lib.hid (by decide)) (by exact Ints.lit _ [5, 0, 0, 3] _ _ rfl (by decide)) rfl).mono ?_
        rintro e w1 ⟨rfl, bw1⟩
        replace bw1 := below_of1 bw1
        replace h0 := h0.below bw1
        replace h1 := h1.below bw1
        replace hb := below_trans hb bw1
        clear bw1
        go_wp2_with fail
        refine (sum_yes' a0 l0 (adL l0) _ (adL l0).length c0 _ v (Lib.hid rfl) h0 rfl HLA.out).mono ?_
        rintro e w2 ⟨Af, cf, rfl, hf, kf, bw2⟩
        replace h0 := h0.below bw2
        replace h1 := h1.below bw2
        replace hb := below_trans hb bw2
        clear bw2
        go_wp2_with fail
        refine (both_any Af a1 (adL l0) l1 _ c1 _ hf h1).mono ?_
        rintro e w' ⟨rfl, rfl⟩
        rw [T1.out]
        go_wp2_with fail
        refine (within_any m 10001 _ (by omega) (by omega)).mono ?_
        rintro e w' ⟨rfl, rfl⟩
        rw [← HR.out]
        go_wp2_with fail
        refine (within_any n (l1.length : Int) _ (by omega) (by omega)).mono ?_
        rintro e w' ⟨rfl, rfl⟩
        rw [HD.out]
        go_wp2_with fail
        refine (fits_yes Af a1 (adL l0) l1 _ _ _ c1 true _ v0 v1 E01.out S1.out hf h1 kf rfl rfl).mono ?_
        rintro e w3 ⟨rfl, bw3⟩
        replace h0 := h0.below bw3
        replace h1 := h1.below bw3
        replace hb := below_trans hb bw3
        clear bw3
        go_wp2_with fail
        refine (busy_yes a0 l0 _ c0 R N _ HE HN h0 rfl).mono ?_
        rintro e w4 ⟨rfl, bw4⟩
        replace h1 := h1.below bw4
        replace hb := below_trans hb bw4
        clear bw4
        go_wp2
        go_ret
        exact ⟨rfl, hb⟩
      have e0 : ((d : Int) == 0) = false := by simp [d0]
      by_cases hq : P < x
      · have t2 : decide (P < x) = true := decide_eq_true hq
        go_enter Try.func7, Try.ntmps7
        go_wp2_with fail
        refine (busy_yes _ [5, 0, 0, 3] _ _ 2 2 _ (Lib.hid (by decide)) (Lib.hid (by decide)) (by exact Ints.lit _ [5, 0, 0, 3] _ _ rfl (by decide)) rfl).mono ?_
        rintro e w1 ⟨rfl, bw1⟩
        replace bw1 := below_of1 bw1
        replace h0 := h0.below bw1
        replace h1 := h1.below bw1
        replace hb := below_trans hb bw1
        clear bw1
        go_wp2_with fail
        refine (sum_yes' a0 l0 (adL l0) _ (adL l0).length c0 _ v (Lib.hid rfl) h0 rfl HLA.out).mono ?_
        rintro e w2 ⟨Af, cf, rfl, hf, kf, bw2⟩
        replace h0 := h0.below bw2
        replace h1 := h1.below bw2
        replace hb := below_trans hb bw2
        clear bw2
        go_wp2_with fail
        refine (both_any Af a1 (adL l0) l1 _ c1 _ hf h1).mono ?_
        rintro e w' ⟨rfl, rfl⟩
        rw [T1.out]
        go_wp2_with fail
        refine (within_any m 10001 _ (by omega) (by omega)).mono ?_
        rintro e w' ⟨rfl, rfl⟩
        rw [← HR.out]
        go_wp2_with fail
        refine (within_any n (l1.length : Int) _ (by omega) (by omega)).mono ?_
        rintro e w' ⟨rfl, rfl⟩
        rw [HD.out]
        go_wp2_with fail
        refine (fits_yes Af a1 (adL l0) l1 _ _ _ c1 true _ v0 v1 E01.out S1.out hf h1 kf rfl rfl).mono ?_
        rintro e w3 ⟨rfl, bw3⟩
        replace h0 := h0.below bw3
        replace h1 := h1.below bw3
        replace hb := below_trans hb bw3
        clear bw3
        go_wp2_with fail
        refine (busy_yes a0 l0 _ c0 R N _ HE HN h0 rfl).mono ?_
        rintro e w4 ⟨rfl, bw4⟩
        replace h1 := h1.below bw4
        replace hb := below_trans hb bw4
        clear bw4
        obtain ⟨b1, o1, x', e1, hc1, HX'⟩ := h1.at_ (k := d) dl
        subst e1
        obtain rfl : x' = x := by have := HX.out; rw [HX'.out] at this; injection this
        have s1 : IntKind.i64.wrap (R * (d : Int)) = P := by rw [HP.out]; exact IntWalk.i64_in _ ⟨by rw [← HP.out]; omega, by rw [← HP.out]; omega⟩
        go_wp2
        go_ret
        exact ⟨rfl, hb⟩
      · have t2 : decide (P < x) = false := decide_eq_false hq
        have hNd := HK.out rfl d0 (by omega)
        have t3 : (N : Int) < (d : Int) := by omega
        go_enter Try.func7, Try.ntmps7
        go_wp2_with fail
        refine (busy_yes _ [5, 0, 0, 3] _ _ 2 2 _ (Lib.hid (by decide)) (Lib.hid (by decide)) (by exact Ints.lit _ [5, 0, 0, 3] _ _ rfl (by decide)) rfl).mono ?_
        rintro e w1 ⟨rfl, bw1⟩
        replace bw1 := below_of1 bw1
        replace h0 := h0.below bw1
        replace h1 := h1.below bw1
        replace hb := below_trans hb bw1
        clear bw1
        go_wp2_with fail
        refine (sum_yes' a0 l0 (adL l0) _ (adL l0).length c0 _ v (Lib.hid rfl) h0 rfl HLA.out).mono ?_
        rintro e w2 ⟨Af, cf, rfl, hf, kf, bw2⟩
        replace h0 := h0.below bw2
        replace h1 := h1.below bw2
        replace hb := below_trans hb bw2
        clear bw2
        go_wp2_with fail
        refine (both_any Af a1 (adL l0) l1 _ c1 _ hf h1).mono ?_
        rintro e w' ⟨rfl, rfl⟩
        rw [T1.out]
        go_wp2_with fail
        refine (within_any m 10001 _ (by omega) (by omega)).mono ?_
        rintro e w' ⟨rfl, rfl⟩
        rw [← HR.out]
        go_wp2_with fail
        refine (within_any n (l1.length : Int) _ (by omega) (by omega)).mono ?_
        rintro e w' ⟨rfl, rfl⟩
        rw [HD.out]
        go_wp2_with fail
        refine (fits_yes Af a1 (adL l0) l1 _ _ _ c1 true _ v0 v1 E01.out S1.out hf h1 kf rfl rfl).mono ?_
        rintro e w3 ⟨rfl, bw3⟩
        replace h0 := h0.below bw3
        replace h1 := h1.below bw3
        replace hb := below_trans hb bw3
        clear bw3
        go_wp2_with fail
        refine (busy_yes a0 l0 _ c0 R N _ HE HN h0 rfl).mono ?_
        rintro e w4 ⟨rfl, bw4⟩
        replace h1 := h1.below bw4
        replace hb := below_trans hb bw4
        clear bw4
        obtain ⟨b1, o1, x', e1, hc1, HX'⟩ := h1.at_ (k := d) dl
        subst e1
        obtain rfl : x' = x := by have := HX.out; rw [HX'.out] at this; injection this
        have s1 : IntKind.i64.wrap (R * (d : Int)) = P := by rw [HP.out]; exact IntWalk.i64_in _ ⟨by rw [← HP.out]; omega, by rw [← HP.out]; omega⟩
        go_wp2
        go_ret
        exact ⟨rfl, hb⟩
  · have e1 : (trk l0 != 0) = true := by simp [hT]
    clear hT
    go_enter Try.func7, Try.ntmps7
    go_wp2_with fail
    refine (busy_yes _ [5, 0, 0, 3] _ _ 2 2 _ (Lib.hid (by decide)) (Lib.hid (by decide)) (by exact Ints.lit _ [5, 0, 0, 3] _ _ rfl (by decide)) rfl).mono ?_
    rintro e w1 ⟨rfl, bw1⟩
    replace bw1 := below_of1 bw1
    replace h0 := h0.below bw1
    replace h1 := h1.below bw1
    replace hb := below_trans hb bw1
    clear bw1
    go_wp2_with fail
    refine (trSum_any a0 l0 c0 _ h0).mono ?_
    rintro e w2 ⟨Af, cf, rfl, of, bw2⟩
    replace h0 := h0.below bw2
    replace h1 := h1.below bw2
    replace hb := below_trans hb bw2
    have hf := Ints.of_own of
    clear bw2 of
    go_wp2
    go_ret
    exact ⟨rfl, hb⟩

end Go.Proofs.Ytifmefachdfmjaa
