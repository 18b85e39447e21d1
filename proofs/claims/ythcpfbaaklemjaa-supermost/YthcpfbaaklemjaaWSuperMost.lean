
/-
  The walk of the law SuperMost.
-/
import Derived.Test.YthcpfbaaklemjaaCloK
namespace Go.Proofs.Ythcpfbaaklemjaa
set_option linter.all false
open Go.RowKit Go.Shelf


theorem sup_lit1 : Sups [0, 3, 4, 9] [0, 3, 6, 9] := ⟨cv_of (by decide), by decide⟩

set_option maxHeartbeats 3200000 in
theorem walk_SuperMost (a0 : Option Addr) (c0 : Nat) (l0 : List Int) (w : World)
    (h0 : Ints w a0 l0) (k0 : l0.length ≤ c0) :
    Calls Try.prog 9 #[.slice a0 l0.length c0] w fun e w' => e = .returned (.bool true) ∧ Below w.heap.size w w' := by
  have hb : Below w.heap.size w w := Below.refl _ _
  by_cases g : chk l0 = 0
  · have t1 : (chk l0 != 0) = false := by simp [g]
    have v := cv_of g
    clear g
    obtain ⟨x, zx⟩ := ex_sup v
    cases bx : bigB x
    · obtain ⟨N, zn⟩ := ex_nought v
      have zy := zx.twice bx
      have zz := zx.self bx
      have vx := zx.curve bx
      have ex := zx.rlen
      have en := zn.rlen
      have K1 : Hid (leK N x = true) := Lib.hid ((leK_iff zn.r vx (by omega)).2 (fun t ht => by
        by_cases e : t = 0
        · subst e; rw [zx.zero, zn.zero]; exact Int.le_refl _
        · rw [zn.pos (by omega)]; exact zx.ge (by omega) (by omega)))
      have Bx := Lib.hid bx
      clear bx ex en
      go_enter Try.func9, Try.ntmps9
      go_wp2_with fail
      refine (sup_yes _ [0, 3, 4, 9] [0, 3, 6, 9] _ _ _ sup_lit1 (by decide) (by exact Ints.lit _ _ _ _ rfl (by decide)) (by decide) rfl).mono ?_
      rintro e w1 ⟨Ax, cx, rfl, ox, bw1⟩
      replace bw1 := below_of1 bw1
      replace h0 := h0.below bw1
      replace hb := below_trans hb bw1
      have hx := Ints.of_own ox
      clear bw1 ox
      go_wp2_with fail
      refine (equal_at Ax _ [0, 3, 6, 9] [0, 3, 6, 9] _ _ _ _ _ (by exact Ints.alloc hx _) (by exact Ints.lit _ _ _ _ rfl (by decide)) rfl rfl).mono ?_
      rintro e w2 ⟨rfl, nw2, hww2⟩
      have bw2 := below_of_drewN hww2
      clear hww2
      replace bw2 := below_of1 bw2
      replace h0 := h0.below bw2
      replace hb := below_trans hb bw2
      clear bw2
      rw [eqB_true rfl]
      clear hx
      go_wp2_with fail
      refine (check_any a0 l0 c0 _ h0).mono ?_
      rintro e w' ⟨rfl, rfl⟩
      go_wp2_with fail
      refine (sup_yes a0 l0 x _ c0 _ zx Bx.out h0 k0 rfl).mono ?_
      rintro e w3 ⟨Ax, cx, rfl, ox, bw3⟩
      replace h0 := h0.below bw3
      replace hb := below_trans hb bw3
      have hx := Ints.of_own ox
      have kx := own_cap ox
      clear bw3 ox
      go_wp2_with fail
      refine (sup_yes Ax x x _ cx _ zy Bx.out hx kx rfl).mono ?_
      rintro e w4 ⟨Ay, cy, rfl, oy, bw4⟩
      replace h0 := h0.below bw4
      replace hx := hx.below bw4
      replace hb := below_trans hb bw4
      have hy := Ints.of_own oy
      clear bw4 oy
      go_wp2_with fail
      refine (dual_yes Ax Ax x x x _ _ cx cx _ zz Bx.out hx hx rfl rfl).mono ?_
      rintro e w5 ⟨Az, cz, rfl, oz, bw5⟩
      replace h0 := h0.below bw5
      replace hx := hx.below bw5
      replace hy := hy.below bw5
      replace hb := below_trans hb bw5
      have hz := Ints.of_own oz
      clear bw5 oz
      go_wp2_with fail
      refine (equal_at Ax Ay x x _ _ _ _ _ hx hy rfl rfl).mono ?_
      rintro e w6 ⟨rfl, nw6, hww6⟩
      have bw6 := below_of_drewN hww6
      clear hww6
      replace h0 := h0.below bw6
      replace hx := hx.below bw6
      replace hz := hz.below bw6
      replace hb := below_trans hb bw6
      clear bw6
      rw [eqB_true rfl]
      go_wp2_with fail
      refine (equal_at Ax Az x x _ _ _ _ _ hx hz rfl rfl).mono ?_
      rintro e w7 ⟨rfl, nw7, hww7⟩
      have bw7 := below_of_drewN hww7
      clear hww7
      replace h0 := h0.below bw7
      replace hx := hx.below bw7
      replace hb := below_trans hb bw7
      clear bw7
      rw [eqB_true rfl]
      go_wp2_with fail
      refine (nought_ok a0 l0 N _ c0 _ zn h0 rfl).mono ?_
      rintro e w8 ⟨Ap, cp, rfl, op, bw8⟩
      replace hx := hx.below bw8
      replace hb := below_trans hb bw8
      have hp := Ints.of_own op
      clear bw8 op
      go_wp2_with fail
      refine (kle_at Ap Ax N x _ _ _ _ _ hp hx rfl rfl).mono ?_
      rintro e w9 ⟨rfl, nw9, hww9⟩
      have bw9 := below_of_drewN hww9
      clear hww9
      replace hb := below_trans hb bw9
      clear bw9
      rw [K1.out]
      go_wp2
      go_ret
      exact ⟨rfl, hb⟩
    · have Bx := Lib.hid bx
      clear bx
      go_enter Try.func9, Try.ntmps9
      go_wp2_with fail
      refine (sup_yes _ [0, 3, 4, 9] [0, 3, 6, 9] _ _ _ sup_lit1 (by decide) (by exact Ints.lit _ _ _ _ rfl (by decide)) (by decide) rfl).mono ?_
      rintro e w1 ⟨Ax, cx, rfl, ox, bw1⟩
      replace bw1 := below_of1 bw1
      replace h0 := h0.below bw1
      replace hb := below_trans hb bw1
      have hx := Ints.of_own ox
      clear bw1 ox
      go_wp2_with fail
      refine (equal_at Ax _ [0, 3, 6, 9] [0, 3, 6, 9] _ _ _ _ _ (by exact Ints.alloc hx _) (by exact Ints.lit _ _ _ _ rfl (by decide)) rfl rfl).mono ?_
      rintro e w2 ⟨rfl, nw2, hww2⟩
      have bw2 := below_of_drewN hww2
      clear hww2
      replace bw2 := below_of1 bw2
      replace h0 := h0.below bw2
      replace hb := below_trans hb bw2
      clear bw2
      rw [eqB_true rfl]
      clear hx
      go_wp2_with fail
      refine (check_any a0 l0 c0 _ h0).mono ?_
      rintro e w' ⟨rfl, rfl⟩
      go_wp2_with fail
      refine (sup_no a0 l0 x _ c0 _ zx Bx.out h0 k0 rfl).mono ?_
      rintro e w3 ⟨Ax, cx, rfl, ox, bw3⟩
      replace h0 := h0.below bw3
      replace hb := below_trans hb bw3
      have hx := Ints.of_own ox
      clear bw3 ox
      go_wp2
      go_ret
      exact ⟨rfl, hb⟩
  · have t1 : (chk l0 != 0) = true := by simp [g]
    clear g
    go_enter Try.func9, Try.ntmps9
    go_wp2_with fail
    refine (sup_yes _ [0, 3, 4, 9] [0, 3, 6, 9] _ _ _ sup_lit1 (by decide) (by exact Ints.lit _ _ _ _ rfl (by decide)) (by decide) rfl).mono ?_
    rintro e w1 ⟨Ax, cx, rfl, ox, bw1⟩
    replace bw1 := below_of1 bw1
    replace h0 := h0.below bw1
    replace hb := below_trans hb bw1
    have hx := Ints.of_own ox
    clear bw1 ox
    go_wp2_with fail
    refine (equal_at Ax _ [0, 3, 6, 9] [0, 3, 6, 9] _ _ _ _ _ (by exact Ints.alloc hx _) (by exact Ints.lit _ _ _ _ rfl (by decide)) rfl rfl).mono ?_
    rintro e w2 ⟨rfl, nw2, hww2⟩
    have bw2 := below_of_drewN hww2
    clear hww2
    replace bw2 := below_of1 bw2
    replace h0 := h0.below bw2
    replace hb := below_trans hb bw2
    clear bw2
    rw [eqB_true rfl]
    clear hx
    go_wp2_with fail
    refine (check_any a0 l0 c0 _ h0).mono ?_
    rintro e w' ⟨rfl, rfl⟩
    go_wp2
    go_ret
    exact ⟨rfl, hb⟩

end Go.Proofs.Ythcpfbaaklemjaa
