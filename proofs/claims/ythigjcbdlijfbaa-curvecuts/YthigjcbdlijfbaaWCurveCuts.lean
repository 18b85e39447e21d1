/-
  The walk of the law CurveCuts.
-/
import Derived.Test.YthigjcbdlijfbaaKeepA
import Derived.Test.YthigjcbdlijfbaaCurveC
import Derived.Test.YthigjcbdlijfbaaPlain
namespace Go.Proofs.Ythigjcbdlijfbaa
open Go.RowKit

theorem cut_ok {l : List Int} (h : Cv l) {q : Nat} (hq : q < l.length) : cutE l q = 0 ∧ cutL l q = l.take (q + 1) := by
  have e : cutE l q = 0 := by simp [cutE, chk_iff.2 h]; omega
  exact ⟨e, by simp [cutL, e]⟩

theorem cut_at (A : Option Addr) (l : List Int) (nl c : Nat) (t : Int) (w : World) (h : Ints w A l) (hl : nl = l.length) :
    Calls Try.prog 19 #[.slice A nl c, .int .i64 t] w (Ans (cutL l t) (cutE l t) w) := by
  subst hl; exact cut_any A l c t w h

theorem leK_take {l m : List Int} (hl : Cv l) (hm : Cv m) (e : l.length = m.length) (n : Nat) (hn : 0 < n) (h : leK l m = true) : leK (l.take n) (m.take n) = true := by
  unfold leK at *
  have h2 : leB l m = true := by simp at h; exact h.2
  rw [Bool.and_eq_true]
  refine ⟨decide_eq_true (chk2_iff.2 ⟨hl.take hn, hm.take hn, by simp [e]⟩), ?_⟩
  rw [leB_iff (by simp [e])]
  intro i hi
  simp at hi
  rw [gt_take (by omega), gt_take (by omega)]
  exact (leB_iff e).1 h2 i (by omega)

set_option maxHeartbeats 1600000 in
theorem walk_CurveCuts (a0 : Option Addr) (c0 : Nat) (l0 : List Int) (a1 : Option Addr) (c1 : Nat) (l1 : List Int) (a b : Int) (w : World)
    (h0 : Ints w a0 l0) (_k0 : l0.length ≤ c0) (h1 : Ints w a1 l1) (_k1 : l1.length ≤ c1) (_ha : (Lit.int .i64 a).wf = true) (_hb : (Lit.int .i64 b).wf = true) :
    Calls Try.prog 9 #[.slice a0 l0.length c0, .slice a1 l1.length c1, .int .i64 a, .int .i64 b] w fun e w' => e = .returned (.bool true) ∧ Below w.heap.size w w' := by
  have hb : Below w.heap.size w w := Below.refl _ _
  have X1 : Hid (cutE [0, 1, 2] 1 = 0) := Lib.hid (by decide)
  have X2 : Hid (cutL [0, 1, 2] 1 = [0, 1]) := Lib.hid (by decide)
  cases t1 : okB l0 l1
  · have T1 := Lib.hid t1
    clear t1
    go_enter Try.func9, Try.ntmps9
    go_wp2_with fail
    refine (cut_at _ [0, 1, 2] _ _ 1 _ (by exact Ints.lit _ _ _ _ rfl (by decide)) rfl).mono ?_
    rintro e w1 ⟨Ax, cx, rfl, ox, bw1⟩
    replace bw1 := below_of1 bw1
    replace h0 := h0.below bw1
    replace h1 := h1.below bw1
    replace hb := below_trans hb bw1
    have hx := Ints.of_own ox
    clear bw1 ox
    rw [X1.out, X2.out]
    rw [X2.out] at hx
    go_wp2_with fail
    refine (equal_at Ax _ [0, 1] [0, 1] _ _ _ _ _ (by exact Ints.alloc hx _) (by exact Ints.lit _ _ _ _ rfl (by decide)) rfl rfl).mono ?_
    rintro e w2 ⟨rfl, nw2, hww2⟩
    have bw2 := below_of_drewN hww2
    clear hww2
    replace bw2 := below_of1 bw2
    replace h0 := h0.below bw2
    replace h1 := h1.below bw2
    replace hb := below_trans hb bw2
    clear bw2
    rw [eqB_true rfl]
    go_wp2_with fail
    refine (both_any a0 a1 l0 l1 c0 c1 _ h0 h1).mono ?_
    rintro e w' ⟨rfl, rfl⟩
    rw [T1.out]
    go_wp2
    go_ret
    exact ⟨rfl, hb⟩
  obtain ⟨v0, v1, v2⟩ := chk2_iff.1 (chk2_of_okB t1)
  have T1 := Lib.hid t1
  clear t1
  have hp := v0.pos
  have h61 := v0.le
  obtain ⟨x, hx⟩ := Int.eq_ofNat_of_zero_le (wi_nonneg a l0.length (by omega))
  obtain ⟨y, hy⟩ := Int.eq_ofNat_of_zero_le (wi_nonneg b l0.length (by omega))
  have hx' : x < l0.length := by have := wi_lt a l0.length (by omega); omega
  have hy' : y < l0.length := by have := wi_lt b l0.length (by omega); omega
  have HX := Lib.hid hx
  have HY := Lib.hid hy
  clear hx hy
  have V2 := Lib.hid v2
  clear v2
  rcases Nat.lt_trichotomy x y with hxy | hxy | hxy
  · obtain ⟨E1, L1⟩ := cut_ok v0 (q := y) (by omega)
    obtain ⟨E2, L2⟩ := cut_ok (v0.take (n := y + 1) (by omega)) (q := x) (by simp; omega)
    obtain ⟨E3, L3⟩ := cut_ok v0 (q := x) (by omega)
    obtain ⟨E4, L4⟩ := cut_ok v1 (q := x) (by have := V2.out; omega)
    rw [List.take_take, Nat.min_eq_left (by omega)] at L2
    have E1 := Lib.hid E1; have E2 := Lib.hid E2; have E3 := Lib.hid E3; have E4 := Lib.hid E4
    have L1 := Lib.hid L1; have L2 := Lib.hid L2; have L3 := Lib.hid L3; have L4 := Lib.hid L4
    have ln : (l0.take (x + 1)).length = x + 1 := by simp; omega
    have LN := Lib.hid ln
    have LK : Hid (leK l0 l1 = true → leK (l0.take (x + 1)) (l1.take (x + 1)) = true) := Lib.hid (leK_take v0 v1 V2.out _ (by omega))
    clear ln
    cases lk : leK l0 l1
    all_goals have LL := Lib.hid lk
    all_goals clear lk
    · go_enter Try.func9, Try.ntmps9
      go_wp2_with fail
      refine (cut_at _ [0, 1, 2] _ _ 1 _ (by exact Ints.lit _ _ _ _ rfl (by decide)) rfl).mono ?_
      rintro e w1 ⟨Ax, cx, rfl, ox, bw1⟩
      replace bw1 := below_of1 bw1
      replace h0 := h0.below bw1
      replace h1 := h1.below bw1
      replace hb := below_trans hb bw1
      have hx := Ints.of_own ox
      clear bw1 ox
      rw [X1.out, X2.out]
      rw [X2.out] at hx
      go_wp2_with fail
      refine (equal_at Ax _ [0, 1] [0, 1] _ _ _ _ _ (by exact Ints.alloc hx _) (by exact Ints.lit _ _ _ _ rfl (by decide)) rfl rfl).mono ?_
      rintro e w2 ⟨rfl, nw2, hww2⟩
      have bw2 := below_of_drewN hww2
      clear hww2
      replace bw2 := below_of1 bw2
      replace h0 := h0.below bw2
      replace h1 := h1.below bw2
      replace hb := below_trans hb bw2
      clear bw2
      rw [eqB_true rfl]
      go_wp2_with fail
      refine (both_any a0 a1 l0 l1 c0 c1 _ h0 h1).mono ?_
      rintro e w' ⟨rfl, rfl⟩
      rw [T1.out]
      go_wp2_with fail
      refine (within_any a l0.length _ (by omega) (by omega)).mono ?_
      rintro e w' ⟨rfl, rfl⟩
      rw [HX.out]
      go_wp2_with fail
      refine (within_any b l0.length _ (by omega) (by omega)).mono ?_
      rintro e w' ⟨rfl, rfl⟩
      rw [HY.out]
      go_wp2_with fail
      refine (cut_any a0 l0 c0 y _ h0).mono ?_
      rintro e w3 ⟨Au, cu, rfl, ou, bw3⟩
      replace h0 := h0.below bw3
      replace h1 := h1.below bw3
      replace hb := below_trans hb bw3
      have hu := Ints.of_own ou
      clear bw3 ou
      rw [E1.out, L1.out]
      rw [L1.out] at hu
      go_wp2_with fail
      refine (cut_at Au (l0.take (y + 1)) _ cu x _ hu (by simp)).mono ?_
      rintro e w4 ⟨Av, cv, rfl, ov, bw4⟩
      replace h0 := h0.below bw4
      replace h1 := h1.below bw4
      replace hb := below_trans hb bw4
      have hv := Ints.of_own ov
      clear bw4 ov
      rw [E2.out, L2.out]
      rw [L2.out] at hv
      go_wp2_with fail
      refine (cut_any a0 l0 c0 x _ h0).mono ?_
      rintro e w5 ⟨Az, cz, rfl, oz, bw5⟩
      replace h0 := h0.below bw5
      replace h1 := h1.below bw5
      replace hv := hv.below bw5
      replace hb := below_trans hb bw5
      have hz := Ints.of_own oz
      clear bw5 oz
      rw [E3.out, L3.out]
      rw [L3.out] at hz
      go_wp2_with fail
      refine (cut_any a1 l1 c1 x _ h1).mono ?_
      rintro e w6 ⟨Aw, cw, rfl, ow, bw6⟩
      replace h0 := h0.below bw6
      replace h1 := h1.below bw6
      replace hv := hv.below bw6
      replace hz := hz.below bw6
      replace hb := below_trans hb bw6
      have hw := Ints.of_own ow
      clear bw6 ow
      rw [E4.out, L4.out]
      rw [L4.out] at hw
      go_wp2_with fail
      refine (equal_at Av Az (l0.take (x + 1)) (l0.take (x + 1)) _ _ _ _ _ hv hz (by simp) (by simp)).mono ?_
      rintro e w7 ⟨rfl, nw7, hww7⟩
      have bw7 := below_of_drewN hww7
      clear hww7
      replace h0 := h0.below bw7
      replace h1 := h1.below bw7
      replace hv := hv.below bw7
      replace hz := hz.below bw7
      replace hw := hw.below bw7
      replace hb := below_trans hb bw7
      clear bw7
      rw [eqB_true rfl]
      go_wp2_with fail
      refine (kle_any a0 a1 l0 l1 c0 c1 _ h0 h1).mono ?_
      rintro e w9 ⟨rfl, nw9, hww9⟩
      have bw9 := below_of_drewN hww9
      clear hww9
      replace hz := hz.below bw9
      replace hw := hw.below bw9
      replace hb := below_trans hb bw9
      clear bw9
      rw [LL.out]
      go_wp2
      go_ret
      exact ⟨rfl, hb⟩
    · have LM := Lib.hid (LK.out LL.out)
      go_enter Try.func9, Try.ntmps9
      go_wp2_with fail
      refine (cut_at _ [0, 1, 2] _ _ 1 _ (by exact Ints.lit _ _ _ _ rfl (by decide)) rfl).mono ?_
      rintro e w1 ⟨Ax, cx, rfl, ox, bw1⟩
      replace bw1 := below_of1 bw1
      replace h0 := h0.below bw1
      replace h1 := h1.below bw1
      replace hb := below_trans hb bw1
      have hx := Ints.of_own ox
      clear bw1 ox
      rw [X1.out, X2.out]
      rw [X2.out] at hx
      go_wp2_with fail
      refine (equal_at Ax _ [0, 1] [0, 1] _ _ _ _ _ (by exact Ints.alloc hx _) (by exact Ints.lit _ _ _ _ rfl (by decide)) rfl rfl).mono ?_
      rintro e w2 ⟨rfl, nw2, hww2⟩
      have bw2 := below_of_drewN hww2
      clear hww2
      replace bw2 := below_of1 bw2
      replace h0 := h0.below bw2
      replace h1 := h1.below bw2
      replace hb := below_trans hb bw2
      clear bw2
      rw [eqB_true rfl]
      go_wp2_with fail
      refine (both_any a0 a1 l0 l1 c0 c1 _ h0 h1).mono ?_
      rintro e w' ⟨rfl, rfl⟩
      rw [T1.out]
      go_wp2_with fail
      refine (within_any a l0.length _ (by omega) (by omega)).mono ?_
      rintro e w' ⟨rfl, rfl⟩
      rw [HX.out]
      go_wp2_with fail
      refine (within_any b l0.length _ (by omega) (by omega)).mono ?_
      rintro e w' ⟨rfl, rfl⟩
      rw [HY.out]
      go_wp2_with fail
      refine (cut_any a0 l0 c0 y _ h0).mono ?_
      rintro e w3 ⟨Au, cu, rfl, ou, bw3⟩
      replace h0 := h0.below bw3
      replace h1 := h1.below bw3
      replace hb := below_trans hb bw3
      have hu := Ints.of_own ou
      clear bw3 ou
      rw [E1.out, L1.out]
      rw [L1.out] at hu
      go_wp2_with fail
      refine (cut_at Au (l0.take (y + 1)) _ cu x _ hu (by simp)).mono ?_
      rintro e w4 ⟨Av, cv, rfl, ov, bw4⟩
      replace h0 := h0.below bw4
      replace h1 := h1.below bw4
      replace hb := below_trans hb bw4
      have hv := Ints.of_own ov
      clear bw4 ov
      rw [E2.out, L2.out]
      rw [L2.out] at hv
      go_wp2_with fail
      refine (cut_any a0 l0 c0 x _ h0).mono ?_
      rintro e w5 ⟨Az, cz, rfl, oz, bw5⟩
      replace h0 := h0.below bw5
      replace h1 := h1.below bw5
      replace hv := hv.below bw5
      replace hb := below_trans hb bw5
      have hz := Ints.of_own oz
      clear bw5 oz
      rw [E3.out, L3.out]
      rw [L3.out] at hz
      go_wp2_with fail
      refine (cut_any a1 l1 c1 x _ h1).mono ?_
      rintro e w6 ⟨Aw, cw, rfl, ow, bw6⟩
      replace h0 := h0.below bw6
      replace h1 := h1.below bw6
      replace hv := hv.below bw6
      replace hz := hz.below bw6
      replace hb := below_trans hb bw6
      have hw := Ints.of_own ow
      clear bw6 ow
      rw [E4.out, L4.out]
      rw [L4.out] at hw
      go_wp2_with fail
      refine (equal_at Av Az (l0.take (x + 1)) (l0.take (x + 1)) _ _ _ _ _ hv hz (by simp) (by simp)).mono ?_
      rintro e w7 ⟨rfl, nw7, hww7⟩
      have bw7 := below_of_drewN hww7
      clear hww7
      replace h0 := h0.below bw7
      replace h1 := h1.below bw7
      replace hv := hv.below bw7
      replace hz := hz.below bw7
      replace hw := hw.below bw7
      replace hb := below_trans hb bw7
      clear bw7
      rw [eqB_true rfl]
      go_wp2_with fail
      refine (kle_any a0 a1 l0 l1 c0 c1 _ h0 h1).mono ?_
      rintro e w9 ⟨rfl, nw9, hww9⟩
      have bw9 := below_of_drewN hww9
      clear hww9
      replace hz := hz.below bw9
      replace hw := hw.below bw9
      replace hb := below_trans hb bw9
      clear bw9
      rw [LL.out]
      go_wp2_with fail
      refine (kle_at Az Aw (l0.take (x + 1)) (l1.take (x + 1)) _ _ _ _ _ hz hw (by simp) (by simp)).mono ?_
      rintro e w8 ⟨rfl, nw8, hww8⟩
      have bw8 := below_of_drewN hww8
      clear hww8
      replace hb := below_trans hb bw8
      clear bw8
      rw [LM.out]
      go_wp2
      go_ret
      exact ⟨rfl, hb⟩
  · subst hxy
    obtain ⟨E1, L1⟩ := cut_ok v0 (q := x) (by omega)
    obtain ⟨E2, L2⟩ := cut_ok (v0.take (n := x + 1) (by omega)) (q := x) (by simp; omega)
    obtain ⟨E3, L3⟩ := cut_ok v0 (q := x) (by omega)
    obtain ⟨E4, L4⟩ := cut_ok v1 (q := x) (by have := V2.out; omega)
    rw [List.take_take, Nat.min_eq_left (by omega)] at L2
    have E1 := Lib.hid E1; have E2 := Lib.hid E2; have E3 := Lib.hid E3; have E4 := Lib.hid E4
    have L1 := Lib.hid L1; have L2 := Lib.hid L2; have L3 := Lib.hid L3; have L4 := Lib.hid L4
    have ln : (l0.take (x + 1)).length = x + 1 := by simp; omega
    have LN := Lib.hid ln
    have LK : Hid (leK l0 l1 = true → leK (l0.take (x + 1)) (l1.take (x + 1)) = true) := Lib.hid (leK_take v0 v1 V2.out _ (by omega))
    clear ln
    cases lk : leK l0 l1
    all_goals have LL := Lib.hid lk
    all_goals clear lk
    · go_enter Try.func9, Try.ntmps9
      go_wp2_with fail
      refine (cut_at _ [0, 1, 2] _ _ 1 _ (by exact Ints.lit _ _ _ _ rfl (by decide)) rfl).mono ?_
      rintro e w1 ⟨Ax, cx, rfl, ox, bw1⟩
      replace bw1 := below_of1 bw1
      replace h0 := h0.below bw1
      replace h1 := h1.below bw1
      replace hb := below_trans hb bw1
      have hx := Ints.of_own ox
      clear bw1 ox
      rw [X1.out, X2.out]
      rw [X2.out] at hx
      go_wp2_with fail
      refine (equal_at Ax _ [0, 1] [0, 1] _ _ _ _ _ (by exact Ints.alloc hx _) (by exact Ints.lit _ _ _ _ rfl (by decide)) rfl rfl).mono ?_
      rintro e w2 ⟨rfl, nw2, hww2⟩
      have bw2 := below_of_drewN hww2
      clear hww2
      replace bw2 := below_of1 bw2
      replace h0 := h0.below bw2
      replace h1 := h1.below bw2
      replace hb := below_trans hb bw2
      clear bw2
      rw [eqB_true rfl]
      go_wp2_with fail
      refine (both_any a0 a1 l0 l1 c0 c1 _ h0 h1).mono ?_
      rintro e w' ⟨rfl, rfl⟩
      rw [T1.out]
      go_wp2_with fail
      refine (within_any a l0.length _ (by omega) (by omega)).mono ?_
      rintro e w' ⟨rfl, rfl⟩
      rw [HX.out]
      go_wp2_with fail
      refine (within_any b l0.length _ (by omega) (by omega)).mono ?_
      rintro e w' ⟨rfl, rfl⟩
      rw [HY.out]
      go_wp2_with fail
      refine (cut_any a0 l0 c0 x _ h0).mono ?_
      rintro e w3 ⟨Au, cu, rfl, ou, bw3⟩
      replace h0 := h0.below bw3
      replace h1 := h1.below bw3
      replace hb := below_trans hb bw3
      have hu := Ints.of_own ou
      clear bw3 ou
      rw [E1.out, L1.out]
      rw [L1.out] at hu
      go_wp2_with fail
      refine (cut_at Au (l0.take (x + 1)) _ cu x _ hu (by simp)).mono ?_
      rintro e w4 ⟨Av, cv, rfl, ov, bw4⟩
      replace h0 := h0.below bw4
      replace h1 := h1.below bw4
      replace hb := below_trans hb bw4
      have hv := Ints.of_own ov
      clear bw4 ov
      rw [E2.out, L2.out]
      rw [L2.out] at hv
      go_wp2_with fail
      refine (cut_any a0 l0 c0 x _ h0).mono ?_
      rintro e w5 ⟨Az, cz, rfl, oz, bw5⟩
      replace h0 := h0.below bw5
      replace h1 := h1.below bw5
      replace hv := hv.below bw5
      replace hb := below_trans hb bw5
      have hz := Ints.of_own oz
      clear bw5 oz
      rw [E3.out, L3.out]
      rw [L3.out] at hz
      go_wp2_with fail
      refine (cut_any a1 l1 c1 x _ h1).mono ?_
      rintro e w6 ⟨Aw, cw, rfl, ow, bw6⟩
      replace h0 := h0.below bw6
      replace h1 := h1.below bw6
      replace hv := hv.below bw6
      replace hz := hz.below bw6
      replace hb := below_trans hb bw6
      have hw := Ints.of_own ow
      clear bw6 ow
      rw [E4.out, L4.out]
      rw [L4.out] at hw
      go_wp2_with fail
      refine (equal_at Av Az (l0.take (x + 1)) (l0.take (x + 1)) _ _ _ _ _ hv hz (by simp) (by simp)).mono ?_
      rintro e w7 ⟨rfl, nw7, hww7⟩
      have bw7 := below_of_drewN hww7
      clear hww7
      replace h0 := h0.below bw7
      replace h1 := h1.below bw7
      replace hv := hv.below bw7
      replace hz := hz.below bw7
      replace hw := hw.below bw7
      replace hb := below_trans hb bw7
      clear bw7
      rw [eqB_true rfl]
      go_wp2_with fail
      refine (kle_any a0 a1 l0 l1 c0 c1 _ h0 h1).mono ?_
      rintro e w9 ⟨rfl, nw9, hww9⟩
      have bw9 := below_of_drewN hww9
      clear hww9
      replace hz := hz.below bw9
      replace hw := hw.below bw9
      replace hb := below_trans hb bw9
      clear bw9
      rw [LL.out]
      go_wp2
      go_ret
      exact ⟨rfl, hb⟩
    · have LM := Lib.hid (LK.out LL.out)
      go_enter Try.func9, Try.ntmps9
      go_wp2_with fail
      refine (cut_at _ [0, 1, 2] _ _ 1 _ (by exact Ints.lit _ _ _ _ rfl (by decide)) rfl).mono ?_
      rintro e w1 ⟨Ax, cx, rfl, ox, bw1⟩
      replace bw1 := below_of1 bw1
      replace h0 := h0.below bw1
      replace h1 := h1.below bw1
      replace hb := below_trans hb bw1
      have hx := Ints.of_own ox
      clear bw1 ox
      rw [X1.out, X2.out]
      rw [X2.out] at hx
      go_wp2_with fail
      refine (equal_at Ax _ [0, 1] [0, 1] _ _ _ _ _ (by exact Ints.alloc hx _) (by exact Ints.lit _ _ _ _ rfl (by decide)) rfl rfl).mono ?_
      rintro e w2 ⟨rfl, nw2, hww2⟩
      have bw2 := below_of_drewN hww2
      clear hww2
      replace bw2 := below_of1 bw2
      replace h0 := h0.below bw2
      replace h1 := h1.below bw2
      replace hb := below_trans hb bw2
      clear bw2
      rw [eqB_true rfl]
      go_wp2_with fail
      refine (both_any a0 a1 l0 l1 c0 c1 _ h0 h1).mono ?_
      rintro e w' ⟨rfl, rfl⟩
      rw [T1.out]
      go_wp2_with fail
      refine (within_any a l0.length _ (by omega) (by omega)).mono ?_
      rintro e w' ⟨rfl, rfl⟩
      rw [HX.out]
      go_wp2_with fail
      refine (within_any b l0.length _ (by omega) (by omega)).mono ?_
      rintro e w' ⟨rfl, rfl⟩
      rw [HY.out]
      go_wp2_with fail
      refine (cut_any a0 l0 c0 x _ h0).mono ?_
      rintro e w3 ⟨Au, cu, rfl, ou, bw3⟩
      replace h0 := h0.below bw3
      replace h1 := h1.below bw3
      replace hb := below_trans hb bw3
      have hu := Ints.of_own ou
      clear bw3 ou
      rw [E1.out, L1.out]
      rw [L1.out] at hu
      go_wp2_with fail
      refine (cut_at Au (l0.take (x + 1)) _ cu x _ hu (by simp)).mono ?_
      rintro e w4 ⟨Av, cv, rfl, ov, bw4⟩
      replace h0 := h0.below bw4
      replace h1 := h1.below bw4
      replace hb := below_trans hb bw4
      have hv := Ints.of_own ov
      clear bw4 ov
      rw [E2.out, L2.out]
      rw [L2.out] at hv
      go_wp2_with fail
      refine (cut_any a0 l0 c0 x _ h0).mono ?_
      rintro e w5 ⟨Az, cz, rfl, oz, bw5⟩
      replace h0 := h0.below bw5
      replace h1 := h1.below bw5
      replace hv := hv.below bw5
      replace hb := below_trans hb bw5
      have hz := Ints.of_own oz
      clear bw5 oz
      rw [E3.out, L3.out]
      rw [L3.out] at hz
      go_wp2_with fail
      refine (cut_any a1 l1 c1 x _ h1).mono ?_
      rintro e w6 ⟨Aw, cw, rfl, ow, bw6⟩
      replace h0 := h0.below bw6
      replace h1 := h1.below bw6
      replace hv := hv.below bw6
      replace hz := hz.below bw6
      replace hb := below_trans hb bw6
      have hw := Ints.of_own ow
      clear bw6 ow
      rw [E4.out, L4.out]
      rw [L4.out] at hw
      go_wp2_with fail
      refine (equal_at Av Az (l0.take (x + 1)) (l0.take (x + 1)) _ _ _ _ _ hv hz (by simp) (by simp)).mono ?_
      rintro e w7 ⟨rfl, nw7, hww7⟩
      have bw7 := below_of_drewN hww7
      clear hww7
      replace h0 := h0.below bw7
      replace h1 := h1.below bw7
      replace hv := hv.below bw7
      replace hz := hz.below bw7
      replace hw := hw.below bw7
      replace hb := below_trans hb bw7
      clear bw7
      rw [eqB_true rfl]
      go_wp2_with fail
      refine (kle_any a0 a1 l0 l1 c0 c1 _ h0 h1).mono ?_
      rintro e w9 ⟨rfl, nw9, hww9⟩
      have bw9 := below_of_drewN hww9
      clear hww9
      replace hz := hz.below bw9
      replace hw := hw.below bw9
      replace hb := below_trans hb bw9
      clear bw9
      rw [LL.out]
      go_wp2_with fail
      refine (kle_at Az Aw (l0.take (x + 1)) (l1.take (x + 1)) _ _ _ _ _ hz hw (by simp) (by simp)).mono ?_
      rintro e w8 ⟨rfl, nw8, hww8⟩
      have bw8 := below_of_drewN hww8
      clear hww8
      replace hb := below_trans hb bw8
      clear bw8
      rw [LM.out]
      go_wp2
      go_ret
      exact ⟨rfl, hb⟩
  · obtain ⟨E1, L1⟩ := cut_ok v0 (q := x) (by omega)
    obtain ⟨E2, L2⟩ := cut_ok (v0.take (n := x + 1) (by omega)) (q := y) (by simp; omega)
    obtain ⟨E3, L3⟩ := cut_ok v0 (q := y) (by omega)
    obtain ⟨E4, L4⟩ := cut_ok v1 (q := y) (by have := V2.out; omega)
    rw [List.take_take, Nat.min_eq_left (by omega)] at L2
    have E1 := Lib.hid E1; have E2 := Lib.hid E2; have E3 := Lib.hid E3; have E4 := Lib.hid E4
    have L1 := Lib.hid L1; have L2 := Lib.hid L2; have L3 := Lib.hid L3; have L4 := Lib.hid L4
    have ln : (l0.take (y + 1)).length = y + 1 := by simp; omega
    have LN := Lib.hid ln
    have LK : Hid (leK l0 l1 = true → leK (l0.take (y + 1)) (l1.take (y + 1)) = true) := Lib.hid (leK_take v0 v1 V2.out _ (by omega))
    clear ln
    cases lk : leK l0 l1
    all_goals have LL := Lib.hid lk
    all_goals clear lk
    · go_enter Try.func9, Try.ntmps9
      go_wp2_with fail
      refine (cut_at _ [0, 1, 2] _ _ 1 _ (by exact Ints.lit _ _ _ _ rfl (by decide)) rfl).mono ?_
      rintro e w1 ⟨Ax, cx, rfl, ox, bw1⟩
      replace bw1 := below_of1 bw1
      replace h0 := h0.below bw1
      replace h1 := h1.below bw1
      replace hb := below_trans hb bw1
      have hx := Ints.of_own ox
      clear bw1 ox
      rw [X1.out, X2.out]
      rw [X2.out] at hx
      go_wp2_with fail
      refine (equal_at Ax _ [0, 1] [0, 1] _ _ _ _ _ (by exact Ints.alloc hx _) (by exact Ints.lit _ _ _ _ rfl (by decide)) rfl rfl).mono ?_
      rintro e w2 ⟨rfl, nw2, hww2⟩
      have bw2 := below_of_drewN hww2
      clear hww2
      replace bw2 := below_of1 bw2
      replace h0 := h0.below bw2
      replace h1 := h1.below bw2
      replace hb := below_trans hb bw2
      clear bw2
      rw [eqB_true rfl]
      go_wp2_with fail
      refine (both_any a0 a1 l0 l1 c0 c1 _ h0 h1).mono ?_
      rintro e w' ⟨rfl, rfl⟩
      rw [T1.out]
      go_wp2_with fail
      refine (within_any a l0.length _ (by omega) (by omega)).mono ?_
      rintro e w' ⟨rfl, rfl⟩
      rw [HX.out]
      go_wp2_with fail
      refine (within_any b l0.length _ (by omega) (by omega)).mono ?_
      rintro e w' ⟨rfl, rfl⟩
      rw [HY.out]
      go_wp2_with fail
      refine (cut_any a0 l0 c0 x _ h0).mono ?_
      rintro e w3 ⟨Au, cu, rfl, ou, bw3⟩
      replace h0 := h0.below bw3
      replace h1 := h1.below bw3
      replace hb := below_trans hb bw3
      have hu := Ints.of_own ou
      clear bw3 ou
      rw [E1.out, L1.out]
      rw [L1.out] at hu
      go_wp2_with fail
      refine (cut_at Au (l0.take (x + 1)) _ cu y _ hu (by simp)).mono ?_
      rintro e w4 ⟨Av, cv, rfl, ov, bw4⟩
      replace h0 := h0.below bw4
      replace h1 := h1.below bw4
      replace hb := below_trans hb bw4
      have hv := Ints.of_own ov
      clear bw4 ov
      rw [E2.out, L2.out]
      rw [L2.out] at hv
      go_wp2_with fail
      refine (cut_any a0 l0 c0 y _ h0).mono ?_
      rintro e w5 ⟨Az, cz, rfl, oz, bw5⟩
      replace h0 := h0.below bw5
      replace h1 := h1.below bw5
      replace hv := hv.below bw5
      replace hb := below_trans hb bw5
      have hz := Ints.of_own oz
      clear bw5 oz
      rw [E3.out, L3.out]
      rw [L3.out] at hz
      go_wp2_with fail
      refine (cut_any a1 l1 c1 y _ h1).mono ?_
      rintro e w6 ⟨Aw, cw, rfl, ow, bw6⟩
      replace h0 := h0.below bw6
      replace h1 := h1.below bw6
      replace hv := hv.below bw6
      replace hz := hz.below bw6
      replace hb := below_trans hb bw6
      have hw := Ints.of_own ow
      clear bw6 ow
      rw [E4.out, L4.out]
      rw [L4.out] at hw
      go_wp2_with fail
      refine (equal_at Av Az (l0.take (y + 1)) (l0.take (y + 1)) _ _ _ _ _ hv hz (by simp) (by simp)).mono ?_
      rintro e w7 ⟨rfl, nw7, hww7⟩
      have bw7 := below_of_drewN hww7
      clear hww7
      replace h0 := h0.below bw7
      replace h1 := h1.below bw7
      replace hv := hv.below bw7
      replace hz := hz.below bw7
      replace hw := hw.below bw7
      replace hb := below_trans hb bw7
      clear bw7
      rw [eqB_true rfl]
      go_wp2_with fail
      refine (kle_any a0 a1 l0 l1 c0 c1 _ h0 h1).mono ?_
      rintro e w9 ⟨rfl, nw9, hww9⟩
      have bw9 := below_of_drewN hww9
      clear hww9
      replace hz := hz.below bw9
      replace hw := hw.below bw9
      replace hb := below_trans hb bw9
      clear bw9
      rw [LL.out]
      go_wp2
      go_ret
      exact ⟨rfl, hb⟩
    · have LM := Lib.hid (LK.out LL.out)
      go_enter Try.func9, Try.ntmps9
      go_wp2_with fail
      refine (cut_at _ [0, 1, 2] _ _ 1 _ (by exact Ints.lit _ _ _ _ rfl (by decide)) rfl).mono ?_
      rintro e w1 ⟨Ax, cx, rfl, ox, bw1⟩
      replace bw1 := below_of1 bw1
      replace h0 := h0.below bw1
      replace h1 := h1.below bw1
      replace hb := below_trans hb bw1
      have hx := Ints.of_own ox
      clear bw1 ox
      rw [X1.out, X2.out]
      rw [X2.out] at hx
      go_wp2_with fail
      refine (equal_at Ax _ [0, 1] [0, 1] _ _ _ _ _ (by exact Ints.alloc hx _) (by exact Ints.lit _ _ _ _ rfl (by decide)) rfl rfl).mono ?_
      rintro e w2 ⟨rfl, nw2, hww2⟩
      have bw2 := below_of_drewN hww2
      clear hww2
      replace bw2 := below_of1 bw2
      replace h0 := h0.below bw2
      replace h1 := h1.below bw2
      replace hb := below_trans hb bw2
      clear bw2
      rw [eqB_true rfl]
      go_wp2_with fail
      refine (both_any a0 a1 l0 l1 c0 c1 _ h0 h1).mono ?_
      rintro e w' ⟨rfl, rfl⟩
      rw [T1.out]
      go_wp2_with fail
      refine (within_any a l0.length _ (by omega) (by omega)).mono ?_
      rintro e w' ⟨rfl, rfl⟩
      rw [HX.out]
      go_wp2_with fail
      refine (within_any b l0.length _ (by omega) (by omega)).mono ?_
      rintro e w' ⟨rfl, rfl⟩
      rw [HY.out]
      go_wp2_with fail
      refine (cut_any a0 l0 c0 x _ h0).mono ?_
      rintro e w3 ⟨Au, cu, rfl, ou, bw3⟩
      replace h0 := h0.below bw3
      replace h1 := h1.below bw3
      replace hb := below_trans hb bw3
      have hu := Ints.of_own ou
      clear bw3 ou
      rw [E1.out, L1.out]
      rw [L1.out] at hu
      go_wp2_with fail
      refine (cut_at Au (l0.take (x + 1)) _ cu y _ hu (by simp)).mono ?_
      rintro e w4 ⟨Av, cv, rfl, ov, bw4⟩
      replace h0 := h0.below bw4
      replace h1 := h1.below bw4
      replace hb := below_trans hb bw4
      have hv := Ints.of_own ov
      clear bw4 ov
      rw [E2.out, L2.out]
      rw [L2.out] at hv
      go_wp2_with fail
      refine (cut_any a0 l0 c0 y _ h0).mono ?_
      rintro e w5 ⟨Az, cz, rfl, oz, bw5⟩
      replace h0 := h0.below bw5
      replace h1 := h1.below bw5
      replace hv := hv.below bw5
      replace hb := below_trans hb bw5
      have hz := Ints.of_own oz
      clear bw5 oz
      rw [E3.out, L3.out]
      rw [L3.out] at hz
      go_wp2_with fail
      refine (cut_any a1 l1 c1 y _ h1).mono ?_
      rintro e w6 ⟨Aw, cw, rfl, ow, bw6⟩
      replace h0 := h0.below bw6
      replace h1 := h1.below bw6
      replace hv := hv.below bw6
      replace hz := hz.below bw6
      replace hb := below_trans hb bw6
      have hw := Ints.of_own ow
      clear bw6 ow
      rw [E4.out, L4.out]
      rw [L4.out] at hw
      go_wp2_with fail
      refine (equal_at Av Az (l0.take (y + 1)) (l0.take (y + 1)) _ _ _ _ _ hv hz (by simp) (by simp)).mono ?_
      rintro e w7 ⟨rfl, nw7, hww7⟩
      have bw7 := below_of_drewN hww7
      clear hww7
      replace h0 := h0.below bw7
      replace h1 := h1.below bw7
      replace hv := hv.below bw7
      replace hz := hz.below bw7
      replace hw := hw.below bw7
      replace hb := below_trans hb bw7
      clear bw7
      rw [eqB_true rfl]
      go_wp2_with fail
      refine (kle_any a0 a1 l0 l1 c0 c1 _ h0 h1).mono ?_
      rintro e w9 ⟨rfl, nw9, hww9⟩
      have bw9 := below_of_drewN hww9
      clear hww9
      replace hz := hz.below bw9
      replace hw := hw.below bw9
      replace hb := below_trans hb bw9
      clear bw9
      rw [LL.out]
      go_wp2_with fail
      refine (kle_at Az Aw (l0.take (y + 1)) (l1.take (y + 1)) _ _ _ _ _ hz hw (by simp) (by simp)).mono ?_
      rintro e w8 ⟨rfl, nw8, hww8⟩
      have bw8 := below_of_drewN hww8
      clear hww8
      replace hb := below_trans hb bw8
      clear bw8
      rw [LM.out]
      go_wp2
      go_ret
      exact ⟨rfl, hb⟩

end Go.Proofs.Ythigjcbdlijfbaa
