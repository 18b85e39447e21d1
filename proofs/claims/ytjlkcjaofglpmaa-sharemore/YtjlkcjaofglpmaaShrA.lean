
/-
  The walk of the law ShareEach over the contracts of package share.
-/
import Derived.Test.YtjlkcjaofglpmaaShrC
import Derived.Test.YtjlkcjaofglpmaaWiN
namespace Go.Proofs.Ytjlkcjaofglpmaa
set_option linter.all false
open Go.RowKit Go.Shelf


set_option maxRecDepth 100000 in
set_option maxHeartbeats 3200000 in
theorem v_ShareEach (K : ShrC) (a0 : Option Addr) (c0 : Nat) (l0 : List Int) (n1 n2 : Int) (w : World)
    (h0 : Ints w a0 l0) (_k0 : l0.length ≤ c0) (_1 : (Lit.int .i64 n1).wf = true) (_2 : (Lit.int .i64 n2).wf = true) :
    Calls Try.prog 6 #[.slice a0 l0.length c0, .int .i64 n1, .int .i64 n2] w fun e w' => e = .returned (.bool true) ∧ Below w.heap.size w w' := by
  have hb : Below w.heap.size w w := Below.refl _ _
  clear _k0 _1 _2
  by_cases hE : shE l0 n1 = 0
  · have ok := sh_iff.1 hE
    have v := ok.lags
    have r0 := ok.r0
    have r1 := ok.r1
    have HE := Lib.hid hE
    have hle := v.le
    clear hE ok
    by_cases hz : l0.length = 0
    · have e1 : ((l0.length : Int) == 0) = true := by rw [hz]; rfl
      have e2 : (l0.length : Int) = 0 := by omega
      clear hz
      go_enter Try.func6, Try.ntmps6
      go_wp2_with fail
      refine (K.done_yes _ [2, 9] [3, 11] _ 2 _ 1 _ (by exact Ints.lit _ [2, 9] _ _ rfl (by decide)) (Lib.hid (by decide)) (Lib.hid (by decide)) rfl rfl).mono ?_
      rintro e w1 ⟨Ax, cx, rfl, hx, kx, bw1⟩
      replace bw1 := below_of1 bw1
      replace h0 := h0.below bw1
      replace hb := below_trans hb bw1
      clear bw1
      go_wp2_with fail
      refine (equal_at Ax _ [3, 11] [3, 11] _ _ _ _ _ (by exact Ints.alloc hx _) (by exact Ints.lit _ [3, 11] _ _ rfl (by decide)) rfl rfl).mono ?_
      rintro e w2 ⟨rfl, nw2, hww2⟩
      have bw2 := below_of_drewN hww2
      clear hww2
      replace bw2 := below_of1 bw2
      replace h0 := h0.below bw2
      replace hb := below_trans hb bw2
      clear bw2
      rw [eqB_true rfl]
      clear hx kx
      go_wp2_with fail
      refine (K.done_yes a0 l0 (shL l0 n1) _ l0.length c0 n1 _ h0 HE (Lib.hid rfl) rfl rfl).mono ?_
      rintro e w3 ⟨Ax, cx, rfl, hx, kx, bw3⟩
      replace h0 := h0.below bw3
      replace hb := below_trans hb bw3
      clear bw3
      go_wp2
      go_ret
      exact ⟨rfl, hb⟩
    · have e1 : ((l0.length : Int) == 0) = false := by rw [beq_eq_false_iff_ne]; omega
      have p1 : 1 ≤ (l0.length : Int) := by omega
      obtain ⟨I, hI⟩ := Int.eq_ofNat_of_zero_le (wi_nonneg n2 (l0.length : Int) (by omega))
      have hi : I < l0.length := by have := wi_lt n2 (l0.length : Int) (by omega); omega
      have HI := Lib.hid hI
      clear hI hz
      go_enter Try.func6, Try.ntmps6
      go_wp2_with fail
      refine (K.done_yes _ [2, 9] [3, 11] _ 2 _ 1 _ (by exact Ints.lit _ [2, 9] _ _ rfl (by decide)) (Lib.hid (by decide)) (Lib.hid (by decide)) rfl rfl).mono ?_
      rintro e w1 ⟨Ax, cx, rfl, hx, kx, bw1⟩
      replace bw1 := below_of1 bw1
      replace h0 := h0.below bw1
      replace hb := below_trans hb bw1
      clear bw1
      go_wp2_with fail
      refine (equal_at Ax _ [3, 11] [3, 11] _ _ _ _ _ (by exact Ints.alloc hx _) (by exact Ints.lit _ [3, 11] _ _ rfl (by decide)) rfl rfl).mono ?_
      rintro e w2 ⟨rfl, nw2, hww2⟩
      have bw2 := below_of_drewN hww2
      clear hww2
      replace bw2 := below_of1 bw2
      replace h0 := h0.below bw2
      replace hb := below_trans hb bw2
      clear bw2
      rw [eqB_true rfl]
      clear hx kx
      go_wp2_with fail
      refine (K.done_yes a0 l0 (shL l0 n1) _ l0.length c0 n1 _ h0 HE (Lib.hid rfl) rfl rfl).mono ?_
      rintro e w3 ⟨Ax, cx, rfl, hx, kx, bw3⟩
      replace h0 := h0.below bw3
      replace hb := below_trans hb bw3
      clear bw3
      go_wp2_with fail
      refine (within_n n2 l0.length I _ p1 (by omega) HI).mono ?_
      rintro e w' ⟨rfl, rfl⟩
      obtain ⟨b1, o1, y, e1, hc1, HY⟩ := h0.at_ (k := I) hi
      obtain ⟨b2, o2, x, e2, hc2, HX⟩ := hx.at_ (k := I) (by rw [length_shL]; exact hi)
      subst e1 e2
      have hy := gt_of_get HY.out
      have hx' := gt_of_get HX.out
      rw [gt_shL hi] at hx'
      have y0 : 0 ≤ y := by rw [← hy]; exact v.lo I hi
      have y1 : y ≤ 1000 := by rw [← hy]; exact v.hi I hi
      have xb := sh_bd v r0 hi
      rw [hx'] at xb
      obtain ⟨x0, x1⟩ := xb
      obtain ⟨P, hP⟩ : ∃ P, P = (x - 1) * n1 := ⟨_, rfl⟩
      obtain ⟨Q, hQ⟩ : ∃ Q, Q = (l0.length : Int) * y := ⟨_, rfl⟩
      have Q0 : 0 ≤ Q := by rw [hQ]; exact Int.mul_nonneg (by omega) y0
      have Q1 : Q ≤ 8000 := by rw [hQ]; have := Int.mul_le_mul (show (l0.length : Int) ≤ 8 by omega) y1 y0 (by omega); omega
      have PQ : P < Q := by
        rcases sh_each v (rate := n1) (by omega) hi with c | c
        · rw [hx'] at c
          subst c
          rw [hP]; omega
        · rw [hx', hy, ← hP, ← hQ] at c; exact c
      have P0 : -10000 ≤ P := by
        rw [hP]
        by_cases c : x = 0
        · subst c; omega
        · have := Int.mul_nonneg (show 0 ≤ x - 1 by omega) (show 0 ≤ n1 by omega); omega
      have s1 : IntKind.i64.wrap (x - 1) = x - 1 := IntWalk.i64_in _ ⟨by omega, by omega⟩
      have s2 : IntKind.i64.wrap ((x - 1) * n1) = P := by rw [← hP]; exact IntWalk.i64_in _ ⟨by omega, by omega⟩
      have s3 : IntKind.i64.wrap ((l0.length : Int) * y) = Q := by rw [← hQ]; exact IntWalk.i64_in _ ⟨by omega, by omega⟩
      have i1 : (I : Int) < (l0.length : Int) := by omega
      clear hP hQ hx' hy
      go_wp2
      go_quiet (fail)
      go_wp2
      go_ret
      exact ⟨rfl, below_trans hb (below_of_drewN rfl)⟩
  · have e1 : (shE l0 n1 != 0) = true := by simp [hE]
    have HE := Lib.hid hE
    clear hE
    go_enter Try.func6, Try.ntmps6
    go_wp2_with fail
    refine (K.done_yes _ [2, 9] [3, 11] _ 2 _ 1 _ (by exact Ints.lit _ [2, 9] _ _ rfl (by decide)) (Lib.hid (by decide)) (Lib.hid (by decide)) rfl rfl).mono ?_
    rintro e w1 ⟨Ax, cx, rfl, hx, kx, bw1⟩
    replace bw1 := below_of1 bw1
    replace h0 := h0.below bw1
    replace hb := below_trans hb bw1
    clear bw1
    go_wp2_with fail
    refine (equal_at Ax _ [3, 11] [3, 11] _ _ _ _ _ (by exact Ints.alloc hx _) (by exact Ints.lit _ [3, 11] _ _ rfl (by decide)) rfl rfl).mono ?_
    rintro e w2 ⟨rfl, nw2, hww2⟩
    have bw2 := below_of_drewN hww2
    clear hww2
    replace bw2 := below_of1 bw2
    replace h0 := h0.below bw2
    replace hb := below_trans hb bw2
    clear bw2
    rw [eqB_true rfl]
    clear hx kx
    go_wp2_with fail
    refine (K.done_no a0 l0 _ c0 n1 _ h0 HE rfl).mono ?_
    rintro e w3 ⟨⟨B, d, rfl⟩, b3⟩
    replace hb := below_trans hb b3
    clear b3
    go_wp2
    go_ret
    exact ⟨rfl, hb⟩

end Go.Proofs.Ytjlkcjaofglpmaa
