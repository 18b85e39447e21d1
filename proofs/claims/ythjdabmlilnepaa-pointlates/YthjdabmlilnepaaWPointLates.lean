
/-
  The walk of the law PointLates.
-/
import Derived.Test.YthjdabmlilnepaaPointL
namespace Go.Proofs.Ythjdabmlilnepaa
set_option linter.all false
open Go.RowKit

theorem late_lit : Lates [1, 2, 3] 1 [0, 1, 2] := by
  refine ⟨cv_of (by decide), by decide, rfl, cv_of (by decide), fun t ht => ?_⟩
  match t, ht with
  | 0, _ => rfl
  | 1, _ => rfl
  | 2, _ => rfl

theorem late_twice {l x y : List Int} {a b : Int} (z : Lates l a x) (z' : Lates x b y) : Lates l (a + b) y := by
  have e1 := z.rlen; have e2 := z'.rlen; have n1 := z.nn; have n2 := z'.nn
  refine ⟨z.one, by omega, by omega, z'.r, fun t ht => ?_⟩
  rw [z'.val t (by omega)]
  unfold lateV
  by_cases h1 : (t : Int) < b
  · rw [if_pos h1, if_pos (by omega)]
  · rw [if_neg h1, z.val _ (by omega)]
    unfold lateV
    by_cases h2 : ((t - b.toNat : Nat) : Int) < a
    · rw [if_pos h2, if_pos (by omega)]
    · rw [if_neg h2, if_neg (by omega)]
      congr 1
      omega

theorem late_min {f g s x w p : List Int} {a : Int} (zs : Zips min f g s) (zx : Lates f a x) (zw : Lates g a w) (zp : Lates s a p) : Zips min x w p := by
  have e1 := zs.len; have e2 := zs.rlen; have e3 := zx.rlen; have e4 := zw.rlen; have e5 := zp.rlen
  refine ⟨zx.r, zw.r, by omega, by omega, zp.r, fun t ht => ?_⟩
  rw [zx.val t (by omega), zw.val t (by omega), zp.val t (by omega)]
  unfold lateV
  by_cases h1 : (t : Int) < a
  · simp [h1]
  · rw [if_neg h1, if_neg h1, if_neg h1, zs.val _ (by omega)]

theorem late_le {f x : List Int} {a : Int} (z : Lates f a x) : leK x f = true := by
  have e3 := z.rlen; have n1 := z.nn
  rw [leK_iff z.r z.one (by omega)]
  intro t ht
  rw [z.val t (by omega)]
  unfold lateV
  by_cases h1 : (t : Int) < a
  · rw [if_pos h1]; exact z.one.lo t (by omega)
  · rw [if_neg h1]; exact z.one.mono (by omega) (by omega)

set_option maxHeartbeats 1600000 in
theorem walk_PointLates (a0 : Option Addr) (c0 : Nat) (l0 : List Int) (a1 : Option Addr) (c1 : Nat) (l1 : List Int) (a b : Int) (w : World)
    (h0 : Ints w a0 l0) (_k0 : l0.length ≤ c0) (h1 : Ints w a1 l1) (_k1 : l1.length ≤ c1) (_ha : (Lit.int .i64 a).wf = true) (_hb : (Lit.int .i64 b).wf = true) :
    Calls Try.prog 9 #[.slice a0 l0.length c0, .slice a1 l1.length c1, .int .i64 a, .int .i64 b] w fun e w' => e = .returned (.bool true) ∧ Below w.heap.size w w' := by
  have hb : Below w.heap.size w w := Below.refl _ _
  cases t1 : okB l0 l1
  · have T1 := Lib.hid t1
    clear t1
    go_enter Try.func9, Try.ntmps9
    go_wp2_with fail
    refine (late_ok _ [1, 2, 3] [0, 1, 2] _ _ 1 _ late_lit (by exact Ints.lit _ _ _ _ rfl (by decide)) rfl).mono ?_
    rintro e w1 ⟨Ax, cx, rfl, ox, bw1⟩
    replace bw1 := below_of1 bw1
    replace h0 := h0.below bw1
    replace h1 := h1.below bw1
    replace hb := below_trans hb bw1
    have hx := Ints.of_own ox
    clear bw1 ox
    go_wp2_with fail
    refine (equal_at Ax _ [0, 1, 2] [0, 1, 2] _ _ _ _ _ (by exact Ints.alloc hx _) (by exact Ints.lit _ _ _ _ rfl (by decide)) rfl rfl).mono ?_
    rintro e w2 ⟨rfl, nw2, hww2⟩
    have bw2 := below_of_drewN hww2
    clear hww2
    replace bw2 := below_of1 bw2
    replace h0 := h0.below bw2
    replace h1 := h1.below bw2
    replace hb := below_trans hb bw2
    clear bw2
    rw [eqB_true rfl]
    clear hx
    go_wp2_with fail
    refine (both_any a0 a1 l0 l1 c0 c1 _ h0 h1).mono ?_
    rintro e w' ⟨rfl, rfl⟩
    rw [T1.out]
    go_wp2
    go_ret
    exact ⟨rfl, hb⟩
  obtain ⟨v0, v1, e1⟩ := chk2_iff.1 (chk2_of_okB t1)
  have T1 := Lib.hid t1
  clear t1
  obtain ⟨m, hm⟩ : ∃ m, m = wi a 70 := ⟨_, rfl⟩
  obtain ⟨n, hn⟩ : ∃ n, n = wi b 70 := ⟨_, rfl⟩
  have m0 : 0 ≤ m := by rw [hm]; exact wi_nonneg _ _ (by decide)
  have n0 : 0 ≤ n := by rw [hn]; exact wi_nonneg _ _ (by decide)
  have m1 : m < 70 := by rw [hm]; exact wi_lt _ _ (by decide)
  have n1 : n < 70 := by rw [hn]; exact wi_lt _ _ (by decide)
  have HM := Lib.hid hm
  have HN := Lib.hid hn
  clear hm hn
  obtain ⟨x, zx⟩ := ex_late v0 m0
  obtain ⟨y, zy⟩ := ex_late zx.r n0
  have zz := late_twice zx zy
  obtain ⟨w', zw⟩ := ex_late v1 m0
  obtain ⟨s, zs⟩ := ex_min v0 v1 e1
  obtain ⟨p, zp⟩ := ex_late zs.r m0
  have zq := late_min zs zx zw zp
  have Q := Lib.hid (late_le zx)
  clear e1
  go_enter Try.func9, Try.ntmps9
  go_wp2_with fail
  refine (late_ok _ [1, 2, 3] [0, 1, 2] _ _ 1 _ late_lit (by exact Ints.lit _ _ _ _ rfl (by decide)) rfl).mono ?_
  rintro e w1 ⟨Ax, cx, rfl, ox, bw1⟩
  replace bw1 := below_of1 bw1
  replace h0 := h0.below bw1
  replace h1 := h1.below bw1
  replace hb := below_trans hb bw1
  have hx := Ints.of_own ox
  clear bw1 ox
  go_wp2_with fail
  refine (equal_at Ax _ [0, 1, 2] [0, 1, 2] _ _ _ _ _ (by exact Ints.alloc hx _) (by exact Ints.lit _ _ _ _ rfl (by decide)) rfl rfl).mono ?_
  rintro e w2 ⟨rfl, nw2, hww2⟩
  have bw2 := below_of_drewN hww2
  clear hww2
  replace bw2 := below_of1 bw2
  replace h0 := h0.below bw2
  replace h1 := h1.below bw2
  replace hb := below_trans hb bw2
  clear bw2
  rw [eqB_true rfl]
  clear hx
  go_wp2_with fail
  refine (both_any a0 a1 l0 l1 c0 c1 _ h0 h1).mono ?_
  rintro e w' ⟨rfl, rfl⟩
  rw [T1.out]
  go_wp2_with fail
  refine (within_any a 70 _ (by decide) (by decide)).mono ?_
  rintro e w' ⟨rfl, rfl⟩
  rw [← HM.out]
  go_wp2_with fail
  refine (within_any b 70 _ (by decide) (by decide)).mono ?_
  rintro e w' ⟨rfl, rfl⟩
  rw [← HN.out]
  go_wp2_with fail
  refine (late_ok a0 l0 x _ c0 m _ zx h0 rfl).mono ?_
  rintro e w3 ⟨Ax, cx, rfl, ox, bw3⟩
  replace h0 := h0.below bw3
  replace h1 := h1.below bw3
  replace hb := below_trans hb bw3
  have hx := Ints.of_own ox
  clear bw3 ox
  go_wp2_with fail
  refine (late_ok Ax x y _ cx n _ zy hx rfl).mono ?_
  rintro e w4 ⟨Ay, cy, rfl, oy, bw4⟩
  replace h0 := h0.below bw4
  replace h1 := h1.below bw4
  replace hx := hx.below bw4
  replace hb := below_trans hb bw4
  have hy := Ints.of_own oy
  clear bw4 oy
  go_wp2_with fail
  refine (late_ok a0 l0 y _ c0 (m + n) _ zz h0 rfl).mono ?_
  rintro e w5 ⟨Az, cz, rfl, oz, bw5⟩
  replace h0 := h0.below bw5
  replace h1 := h1.below bw5
  replace hx := hx.below bw5
  replace hy := hy.below bw5
  replace hb := below_trans hb bw5
  have hz := Ints.of_own oz
  clear bw5 oz
  go_wp2_with fail
  refine (late_ok a1 l1 w' _ c1 m _ zw h1 rfl).mono ?_
  rintro e w6 ⟨Av, cv, rfl, ov, bw6⟩
  replace h0 := h0.below bw6
  replace h1 := h1.below bw6
  replace hx := hx.below bw6
  replace hy := hy.below bw6
  replace hz := hz.below bw6
  replace hb := below_trans hb bw6
  have hv := Ints.of_own ov
  clear bw6 ov
  go_wp2_with fail
  refine (min_ok a0 a1 l0 l1 s c0 c1 _ zs h0 h1).mono ?_
  rintro e w7 ⟨As, cs, rfl, os, bw7⟩
  replace h0 := h0.below bw7
  replace h1 := h1.below bw7
  replace hx := hx.below bw7
  replace hy := hy.below bw7
  replace hz := hz.below bw7
  replace hv := hv.below bw7
  replace hb := below_trans hb bw7
  have hs := Ints.of_own os
  clear bw7 os
  go_wp2_with fail
  refine (late_ok As s p _ cs m _ zp hs rfl).mono ?_
  rintro e w8 ⟨Ap, cp, rfl, op, bw8⟩
  replace h0 := h0.below bw8
  replace h1 := h1.below bw8
  replace hx := hx.below bw8
  replace hy := hy.below bw8
  replace hz := hz.below bw8
  replace hv := hv.below bw8
  replace hb := below_trans hb bw8
  have hp := Ints.of_own op
  clear bw8 op
  go_wp2_with fail
  refine (min_ok Ax Av x w' p cx cv _ zq hx hv).mono ?_
  rintro e w9 ⟨Aq, cq, rfl, oq, bw9⟩
  replace h0 := h0.below bw9
  replace hx := hx.below bw9
  replace hy := hy.below bw9
  replace hz := hz.below bw9
  replace hp := hp.below bw9
  replace hb := below_trans hb bw9
  have hq := Ints.of_own oq
  clear bw9 oq
  go_wp2_with fail
  refine (equal_any Ay Az y y cy cz _ hy hz).mono ?_
  rintro e w10 ⟨rfl, nw10, hww10⟩
  have bw10 := below_of_drewN hww10
  clear hww10
  replace h0 := h0.below bw10
  replace hx := hx.below bw10
  replace hp := hp.below bw10
  replace hq := hq.below bw10
  replace hb := below_trans hb bw10
  clear bw10
  rw [eqB_true rfl]
  go_wp2_with fail
  refine (kle_any Ax a0 x l0 cx c0 _ hx h0).mono ?_
  rintro e w11 ⟨rfl, nw11, hww11⟩
  have bw11 := below_of_drewN hww11
  clear hww11
  replace hp := hp.below bw11
  replace hq := hq.below bw11
  replace hb := below_trans hb bw11
  clear bw11
  rw [Q.out]
  go_wp2_with fail
  refine (equal_any Ap Aq p p cp cq _ hp hq).mono ?_
  rintro e w12 ⟨rfl, nw12, hww12⟩
  have bw12 := below_of_drewN hww12
  clear hww12
  replace hb := below_trans hb bw12
  clear bw12
  rw [eqB_true rfl]
  go_wp2
  go_ret
  exact ⟨rfl, hb⟩

end Go.Proofs.Ythjdabmlilnepaa
