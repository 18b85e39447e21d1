
/-
  The walk of the law ClosureLeast.
-/
import Derived.Test.YthcpfbaaklemjaaCloK
namespace Go.Proofs.Ythcpfbaaklemjaa
set_option linter.all false
open Go.RowKit Go.Shelf


theorem clos_lit1 : Clos [1, 3, 9, 9] [0, 3, 6, 9] := ⟨cv_of (by decide), by decide⟩

set_option maxHeartbeats 3200000 in
theorem walk_ClosureLeast (a0 : Option Addr) (c0 : Nat) (l0 : List Int) (a1 : Option Addr) (c1 : Nat) (l1 : List Int) (w : World)
    (h0 : Ints w a0 l0) (k0 : l0.length ≤ c0) (h1 : Ints w a1 l1) (k1 : l1.length ≤ c1) :
    Calls Try.prog 5 #[.slice a0 l0.length c0, .slice a1 l1.length c1] w fun e w' => e = .returned (.bool true) ∧ Below w.heap.size w w' := by
  have hb : Below w.heap.size w w := Below.refl _ _
  cases t1 : okB l0 l1
  · have T1 := Lib.hid t1
    clear t1
    go_enter Try.func5, Try.ntmps5
    go_wp2_with fail
    refine (clos_yes _ [1, 3, 9, 9] [0, 3, 6, 9] _ _ _ clos_lit1 (by exact Ints.lit _ _ _ _ rfl (by decide)) (by decide) rfl).mono ?_
    rintro e w1 ⟨Ax, cx, rfl, ox, bw1⟩
    replace bw1 := below_of1 bw1
    replace h0 := h0.below bw1
    replace h1 := h1.below bw1
    replace hb := below_trans hb bw1
    have hx := Ints.of_own ox
    clear bw1 ox
    go_wp2_with fail
    refine (equal_at Ax _ [0, 3, 6, 9] [0, 3, 6, 9] _ _ _ _ _ (by exact Ints.alloc hx _) (by exact Ints.lit _ _ _ _ rfl (by decide)) rfl rfl).mono ?_
    rintro e w2 ⟨rfl, nw2, hww2⟩
    have bw2 := below_of_drewN hww2
    clear hww2
    replace bw2 := below_of1 bw2
    replace h0 := h0.below bw2
    replace h1 := h1.below bw2
    replace hb := below_trans hb bw2
    clear bw2
    rw [eqB_true rfl]
    clear hx
    go_wp2_with fail
    refine (both_any a0 a1 l0 l1 c0 c1 _ h0 h1).mono ?_
    rintro e w' ⟨rfl, rfl⟩
    rw [T1.out]
    go_wp2
    go_ret
    exact ⟨rfl, hb⟩
  obtain ⟨v0, v1, e01⟩ := chk2_iff.1 (chk2_of_okB t1)
  have T1 := Lib.hid t1
  clear t1
  obtain ⟨x, zx⟩ := ex_clos v0
  obtain ⟨N, zn⟩ := ex_nought v0
  have zy := zx.twice
  have ex := zx.rlen
  have en := zn.rlen
  have HX : Hid (Hid (subB x = true)) := Lib.hid (Lib.hid ((subB_iff zx.r).2 zx.sb))
  have K1 : Hid (leK x N = true) := Lib.hid ((leK_iff zx.r zn.r (by omega)).2 (fun t ht => by
    by_cases e : t = 0
    · subst e; rw [zx.zero, zn.zero]; exact Int.le_refl _
    · rw [zn.pos (by omega)]; exact zx.le (by omega) (by omega)))
  cases hs : subB l1
  · have HS := Lib.hid hs
    clear hs e01 ex en
    go_enter Try.func5, Try.ntmps5
    go_wp2_with fail
    refine (clos_yes _ [1, 3, 9, 9] [0, 3, 6, 9] _ _ _ clos_lit1 (by exact Ints.lit _ _ _ _ rfl (by decide)) (by decide) rfl).mono ?_
    rintro e w1 ⟨Ax, cx, rfl, ox, bw1⟩
    replace bw1 := below_of1 bw1
    replace h0 := h0.below bw1
    replace h1 := h1.below bw1
    replace hb := below_trans hb bw1
    have hx := Ints.of_own ox
    clear bw1 ox
    go_wp2_with fail
    refine (equal_at Ax _ [0, 3, 6, 9] [0, 3, 6, 9] _ _ _ _ _ (by exact Ints.alloc hx _) (by exact Ints.lit _ _ _ _ rfl (by decide)) rfl rfl).mono ?_
    rintro e w2 ⟨rfl, nw2, hww2⟩
    have bw2 := below_of_drewN hww2
    clear hww2
    replace bw2 := below_of1 bw2
    replace h0 := h0.below bw2
    replace h1 := h1.below bw2
    replace hb := below_trans hb bw2
    clear bw2
    rw [eqB_true rfl]
    clear hx
    go_wp2_with fail
    refine (both_any a0 a1 l0 l1 c0 c1 _ h0 h1).mono ?_
    rintro e w' ⟨rfl, rfl⟩
    rw [T1.out]
    go_wp2_with fail
    refine (clos_yes a0 l0 x _ c0 _ zx h0 k0 rfl).mono ?_
    rintro e w3 ⟨Ax, cx, rfl, ox, bw3⟩
    replace h0 := h0.below bw3
    replace h1 := h1.below bw3
    replace hb := below_trans hb bw3
    have hx := Ints.of_own ox
    have kx := own_cap ox
    clear bw3 ox
    go_wp2_with fail
    refine (clos_yes Ax x x _ cx _ zy hx kx rfl).mono ?_
    rintro e w4 ⟨Ay, cy, rfl, oy, bw4⟩
    replace h0 := h0.below bw4
    replace h1 := h1.below bw4
    replace hx := hx.below bw4
    replace hb := below_trans hb bw4
    have hy := Ints.of_own oy
    clear bw4 oy
    go_wp2_with fail
    refine (is_ok Ax x _ cx true _ zx.r HX.out hx kx rfl).mono ?_
    rintro e w5 ⟨rfl, bw5⟩
    replace h0 := h0.below bw5
    replace h1 := h1.below bw5
    replace hx := hx.below bw5
    replace hy := hy.below bw5
    replace hb := below_trans hb bw5
    clear bw5
    go_wp2_with fail
    refine (is_ok a1 l1 _ c1 false _ v1 HS h1 k1 rfl).mono ?_
    rintro e w6 ⟨rfl, bw6⟩
    replace h0 := h0.below bw6
    replace h1 := h1.below bw6
    replace hx := hx.below bw6
    replace hy := hy.below bw6
    replace hb := below_trans hb bw6
    clear bw6
    go_wp2_with fail
    refine (equal_at Ax Ay x x _ _ _ _ _ hx hy rfl rfl).mono ?_
    rintro e w7 ⟨rfl, nw7, hww7⟩
    have bw7 := below_of_drewN hww7
    clear hww7
    replace h0 := h0.below bw7
    replace h1 := h1.below bw7
    replace hx := hx.below bw7
    replace hb := below_trans hb bw7
    clear bw7
    rw [eqB_true rfl]
    go_wp2_with fail
    refine (nought_ok a0 l0 N _ c0 _ zn h0 rfl).mono ?_
    rintro e w8 ⟨Ap, cp, rfl, op, bw8⟩
    replace h0 := h0.below bw8
    replace h1 := h1.below bw8
    replace hx := hx.below bw8
    replace hb := below_trans hb bw8
    have hp := Ints.of_own op
    clear bw8 op
    go_wp2_with fail
    refine (kle_at Ax Ap x N _ _ _ _ _ hx hp rfl rfl).mono ?_
    rintro e w9 ⟨rfl, nw9, hww9⟩
    have bw9 := below_of_drewN hww9
    clear hww9
    replace h0 := h0.below bw9
    replace h1 := h1.below bw9
    replace hx := hx.below bw9
    replace hb := below_trans hb bw9
    clear bw9
    rw [K1.out]
    go_wp2
    go_ret
    exact ⟨rfl, hb⟩
  · have HS := Lib.hid hs
    have sb := (subB_iff v1).1 hs
    cases q : leK l1 N
    · have K2 := Lib.hid q
      clear hs q e01 ex en
      go_enter Try.func5, Try.ntmps5
      go_wp2_with fail
      refine (clos_yes _ [1, 3, 9, 9] [0, 3, 6, 9] _ _ _ clos_lit1 (by exact Ints.lit _ _ _ _ rfl (by decide)) (by decide) rfl).mono ?_
      rintro e w1 ⟨Ax, cx, rfl, ox, bw1⟩
      replace bw1 := below_of1 bw1
      replace h0 := h0.below bw1
      replace h1 := h1.below bw1
      replace hb := below_trans hb bw1
      have hx := Ints.of_own ox
      clear bw1 ox
      go_wp2_with fail
      refine (equal_at Ax _ [0, 3, 6, 9] [0, 3, 6, 9] _ _ _ _ _ (by exact Ints.alloc hx _) (by exact Ints.lit _ _ _ _ rfl (by decide)) rfl rfl).mono ?_
      rintro e w2 ⟨rfl, nw2, hww2⟩
      have bw2 := below_of_drewN hww2
      clear hww2
      replace bw2 := below_of1 bw2
      replace h0 := h0.below bw2
      replace h1 := h1.below bw2
      replace hb := below_trans hb bw2
      clear bw2
      rw [eqB_true rfl]
      clear hx
      go_wp2_with fail
      refine (both_any a0 a1 l0 l1 c0 c1 _ h0 h1).mono ?_
      rintro e w' ⟨rfl, rfl⟩
      rw [T1.out]
      go_wp2_with fail
      refine (clos_yes a0 l0 x _ c0 _ zx h0 k0 rfl).mono ?_
      rintro e w3 ⟨Ax, cx, rfl, ox, bw3⟩
      replace h0 := h0.below bw3
      replace h1 := h1.below bw3
      replace hb := below_trans hb bw3
      have hx := Ints.of_own ox
      have kx := own_cap ox
      clear bw3 ox
      go_wp2_with fail
      refine (clos_yes Ax x x _ cx _ zy hx kx rfl).mono ?_
      rintro e w4 ⟨Ay, cy, rfl, oy, bw4⟩
      replace h0 := h0.below bw4
      replace h1 := h1.below bw4
      replace hx := hx.below bw4
      replace hb := below_trans hb bw4
      have hy := Ints.of_own oy
      clear bw4 oy
      go_wp2_with fail
      refine (is_ok Ax x _ cx true _ zx.r HX.out hx kx rfl).mono ?_
      rintro e w5 ⟨rfl, bw5⟩
      replace h0 := h0.below bw5
      replace h1 := h1.below bw5
      replace hx := hx.below bw5
      replace hy := hy.below bw5
      replace hb := below_trans hb bw5
      clear bw5
      go_wp2_with fail
      refine (is_ok a1 l1 _ c1 true _ v1 HS h1 k1 rfl).mono ?_
      rintro e w6 ⟨rfl, bw6⟩
      replace h0 := h0.below bw6
      replace h1 := h1.below bw6
      replace hx := hx.below bw6
      replace hy := hy.below bw6
      replace hb := below_trans hb bw6
      clear bw6
      go_wp2_with fail
      refine (equal_at Ax Ay x x _ _ _ _ _ hx hy rfl rfl).mono ?_
      rintro e w7 ⟨rfl, nw7, hww7⟩
      have bw7 := below_of_drewN hww7
      clear hww7
      replace h0 := h0.below bw7
      replace h1 := h1.below bw7
      replace hx := hx.below bw7
      replace hb := below_trans hb bw7
      clear bw7
      rw [eqB_true rfl]
      go_wp2_with fail
      refine (nought_ok a0 l0 N _ c0 _ zn h0 rfl).mono ?_
      rintro e w8 ⟨Ap, cp, rfl, op, bw8⟩
      replace h0 := h0.below bw8
      replace h1 := h1.below bw8
      replace hx := hx.below bw8
      replace hb := below_trans hb bw8
      have hp := Ints.of_own op
      clear bw8 op
      go_wp2_with fail
      refine (kle_at Ax Ap x N _ _ _ _ _ hx hp rfl rfl).mono ?_
      rintro e w9 ⟨rfl, nw9, hww9⟩
      have bw9 := below_of_drewN hww9
      clear hww9
      replace h0 := h0.below bw9
      replace h1 := h1.below bw9
      replace hx := hx.below bw9
      replace hb := below_trans hb bw9
      clear bw9
      rw [K1.out]
      go_wp2_with fail
      refine (nought_ok a0 l0 N _ c0 _ zn h0 rfl).mono ?_
      rintro e w10 ⟨Aq, cq, rfl, oq, bw10⟩
      replace h1 := h1.below bw10
      replace hx := hx.below bw10
      replace hb := below_trans hb bw10
      have hq := Ints.of_own oq
      clear bw10 oq
      go_wp2_with fail
      refine (kle_at a1 Aq l1 N _ _ _ _ _ h1 hq rfl rfl).mono ?_
      rintro e w11 ⟨rfl, nw11, hww11⟩
      have bw11 := below_of_drewN hww11
      clear hww11
      replace h1 := h1.below bw11
      replace hx := hx.below bw11
      replace hb := below_trans hb bw11
      clear bw11
      rw [K2.out]
      go_wp2
      go_ret
      exact ⟨rfl, hb⟩
    · have K2 := Lib.hid q
      have K3 : Hid (leK l1 x = true) := Lib.hid ((leK_iff v1 zx.r (by omega)).2 (fun t ht => zx.most (by omega) sb (fun t h0 ht => by
        have := (leK_iff v1 zn.r (by omega)).1 q t (by omega); rwa [zn.pos h0] at this) t (by omega)))
      clear hs q e01 ex en
      go_enter Try.func5, Try.ntmps5
      go_wp2_with fail
      refine (clos_yes _ [1, 3, 9, 9] [0, 3, 6, 9] _ _ _ clos_lit1 (by exact Ints.lit _ _ _ _ rfl (by decide)) (by decide) rfl).mono ?_
      rintro e w1 ⟨Ax, cx, rfl, ox, bw1⟩
      replace bw1 := below_of1 bw1
      replace h0 := h0.below bw1
      replace h1 := h1.below bw1
      replace hb := below_trans hb bw1
      have hx := Ints.of_own ox
      clear bw1 ox
      go_wp2_with fail
      refine (equal_at Ax _ [0, 3, 6, 9] [0, 3, 6, 9] _ _ _ _ _ (by exact Ints.alloc hx _) (by exact Ints.lit _ _ _ _ rfl (by decide)) rfl rfl).mono ?_
      rintro e w2 ⟨rfl, nw2, hww2⟩
      have bw2 := below_of_drewN hww2
      clear hww2
      replace bw2 := below_of1 bw2
      replace h0 := h0.below bw2
      replace h1 := h1.below bw2
      replace hb := below_trans hb bw2
      clear bw2
      rw [eqB_true rfl]
      clear hx
      go_wp2_with fail
      refine (both_any a0 a1 l0 l1 c0 c1 _ h0 h1).mono ?_
      rintro e w' ⟨rfl, rfl⟩
      rw [T1.out]
      go_wp2_with fail
      refine (clos_yes a0 l0 x _ c0 _ zx h0 k0 rfl).mono ?_
      rintro e w3 ⟨Ax, cx, rfl, ox, bw3⟩
      replace h0 := h0.below bw3
      replace h1 := h1.below bw3
      replace hb := below_trans hb bw3
      have hx := Ints.of_own ox
      have kx := own_cap ox
      clear bw3 ox
      go_wp2_with fail
      refine (clos_yes Ax x x _ cx _ zy hx kx rfl).mono ?_
      rintro e w4 ⟨Ay, cy, rfl, oy, bw4⟩
      replace h0 := h0.below bw4
      replace h1 := h1.below bw4
      replace hx := hx.below bw4
      replace hb := below_trans hb bw4
      have hy := Ints.of_own oy
      clear bw4 oy
      go_wp2_with fail
      refine (is_ok Ax x _ cx true _ zx.r HX.out hx kx rfl).mono ?_
      rintro e w5 ⟨rfl, bw5⟩
      replace h0 := h0.below bw5
      replace h1 := h1.below bw5
      replace hx := hx.below bw5
      replace hy := hy.below bw5
      replace hb := below_trans hb bw5
      clear bw5
      go_wp2_with fail
      refine (is_ok a1 l1 _ c1 true _ v1 HS h1 k1 rfl).mono ?_
      rintro e w6 ⟨rfl, bw6⟩
      replace h0 := h0.below bw6
      replace h1 := h1.below bw6
      replace hx := hx.below bw6
      replace hy := hy.below bw6
      replace hb := below_trans hb bw6
      clear bw6
      go_wp2_with fail
      refine (equal_at Ax Ay x x _ _ _ _ _ hx hy rfl rfl).mono ?_
      rintro e w7 ⟨rfl, nw7, hww7⟩
      have bw7 := below_of_drewN hww7
      clear hww7
      replace h0 := h0.below bw7
      replace h1 := h1.below bw7
      replace hx := hx.below bw7
      replace hb := below_trans hb bw7
      clear bw7
      rw [eqB_true rfl]
      go_wp2_with fail
      refine (nought_ok a0 l0 N _ c0 _ zn h0 rfl).mono ?_
      rintro e w8 ⟨Ap, cp, rfl, op, bw8⟩
      replace h0 := h0.below bw8
      replace h1 := h1.below bw8
      replace hx := hx.below bw8
      replace hb := below_trans hb bw8
      have hp := Ints.of_own op
      clear bw8 op
      go_wp2_with fail
      refine (kle_at Ax Ap x N _ _ _ _ _ hx hp rfl rfl).mono ?_
      rintro e w9 ⟨rfl, nw9, hww9⟩
      have bw9 := below_of_drewN hww9
      clear hww9
      replace h0 := h0.below bw9
      replace h1 := h1.below bw9
      replace hx := hx.below bw9
      replace hb := below_trans hb bw9
      clear bw9
      rw [K1.out]
      go_wp2_with fail
      refine (nought_ok a0 l0 N _ c0 _ zn h0 rfl).mono ?_
      rintro e w10 ⟨Aq, cq, rfl, oq, bw10⟩
      replace h1 := h1.below bw10
      replace hx := hx.below bw10
      replace hb := below_trans hb bw10
      have hq := Ints.of_own oq
      clear bw10 oq
      go_wp2_with fail
      refine (kle_at a1 Aq l1 N _ _ _ _ _ h1 hq rfl rfl).mono ?_
      rintro e w11 ⟨rfl, nw11, hww11⟩
      have bw11 := below_of_drewN hww11
      clear hww11
      replace h1 := h1.below bw11
      replace hx := hx.below bw11
      replace hb := below_trans hb bw11
      clear bw11
      rw [K2.out]
      go_wp2_with fail
      refine (kle_at a1 Ax l1 x _ _ _ _ _ h1 hx rfl rfl).mono ?_
      rintro e w12 ⟨rfl, nw12, hww12⟩
      have bw12 := below_of_drewN hww12
      clear hww12
      replace hb := below_trans hb bw12
      clear bw12
      rw [K3.out]
      go_wp2
      go_ret
      exact ⟨rfl, hb⟩

end Go.Proofs.Ythcpfbaaklemjaa
