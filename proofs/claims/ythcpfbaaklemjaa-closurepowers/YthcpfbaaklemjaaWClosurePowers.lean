
/-
  The walk of the law ClosurePowers.
-/
import Derived.Test.YthcpfbaaklemjaaCloK
namespace Go.Proofs.Ythcpfbaaklemjaa
set_option linter.all false
open Go.RowKit Go.Shelf


theorem clos_lit2 : Clos [0, 3, 9] [0, 3, 6] := ⟨cv_of (by decide), by decide⟩

set_option maxHeartbeats 3200000 in
theorem walk_ClosurePowers (a0 : Option Addr) (c0 : Nat) (l0 : List Int) (w : World)
    (h0 : Ints w a0 l0) (k0 : l0.length ≤ c0) :
    Calls Try.prog 6 #[.slice a0 l0.length c0] w fun e w' => e = .returned (.bool true) ∧ Below w.heap.size w w' := by
  have hb : Below w.heap.size w w := Below.refl _ _
  by_cases g : chk l0 = 0
  · have t1 : (chk l0 != 0) = false := by simp [g]
    have v := cv_of g
    have vp := v.pos
    have vl := v.le
    clear g
    obtain ⟨x, zx⟩ := ex_clos v
    obtain ⟨N, zn⟩ := ex_nought v
    have B0 := Lib.hid zx.r.small
    rcases Nat.lt_trichotomy l0.length 2 with hl | hl | hl
    · have zp := clos_pow zx zn (K := 1) (by omega)
      have f1 : (l0.length : Int) - 1 < 1 := by omega
      go_enter Try.func6, Try.ntmps6
      go_wp2_with fail
      refine (clos_yes _ [0, 3, 9] [0, 3, 6] _ _ _ clos_lit2 (by exact Ints.lit _ _ _ _ rfl (by decide)) (by decide) rfl).mono ?_
      rintro e w1 ⟨Ax, cx, rfl, ox, bw1⟩
      replace bw1 := below_of1 bw1
      replace h0 := h0.below bw1
      replace hb := below_trans hb bw1
      have hx := Ints.of_own ox
      clear bw1 ox
      go_wp2_with fail
      refine (equal_at Ax _ [0, 3, 6] [0, 3, 6] _ _ _ _ _ (by exact Ints.alloc hx _) (by exact Ints.lit _ _ _ _ rfl (by decide)) rfl rfl).mono ?_
      rintro e w2 ⟨rfl, nw2, hww2⟩
      have bw2 := below_of_drewN hww2
      clear hww2
      replace bw2 := below_of1 bw2
      replace h0 := h0.below bw2
      replace hb := below_trans hb bw2
      clear bw2
      rw [eqB_true rfl]
      clear hx
      go_wp2_with fail
      refine (check_any a0 l0 c0 _ h0).mono ?_
      rintro e w' ⟨rfl, rfl⟩
      go_wp2_with fail
      refine (clos_yes a0 l0 x _ c0 _ zx h0 k0 rfl).mono ?_
      rintro e w3 ⟨Ax, cx, rfl, ox, bw3⟩
      replace h0 := h0.below bw3
      replace hb := below_trans hb bw3
      have hx := Ints.of_own ox
      clear bw3 ox
      go_wp2_with fail
      refine (nought_ok a0 l0 N _ c0 _ zn h0 rfl).mono ?_
      rintro e w4 ⟨Ap, cp, rfl, op, bw4⟩
      replace h0 := h0.below bw4
      replace hx := hx.below bw4
      replace hb := below_trans hb bw4
      have hp := Ints.of_own op
      clear bw4 op
      go_wp2_with fail
      refine (pow_yes Ap N x _ cp 1 _ zp B0.out hp rfl).mono ?_
      rintro e w5 ⟨Ay, cy, rfl, oy, bw5⟩
      replace hx := hx.below bw5
      replace hb := below_trans hb bw5
      have hy := Ints.of_own oy
      clear bw5 oy
      go_wp2_with fail
      refine (equal_at Ax Ay x x _ _ _ _ _ hx hy rfl rfl).mono ?_
      rintro e w6 ⟨rfl, nw6, hww6⟩
      have bw6 := below_of_drewN hww6
      clear hww6
      replace hb := below_trans hb bw6
      clear bw6
      rw [eqB_true rfl]
      go_wp2
      go_ret
      exact ⟨rfl, hb⟩
    · have zp := clos_pow zx zn (K := 1) (by omega)
      have f1 : (l0.length : Int) - 1 = 1 := by omega
      clear hl
      go_enter Try.func6, Try.ntmps6
      go_wp2_with fail
      refine (clos_yes _ [0, 3, 9] [0, 3, 6] _ _ _ clos_lit2 (by exact Ints.lit _ _ _ _ rfl (by decide)) (by decide) rfl).mono ?_
      rintro e w1 ⟨Ax, cx, rfl, ox, bw1⟩
      replace bw1 := below_of1 bw1
      replace h0 := h0.below bw1
      replace hb := below_trans hb bw1
      have hx := Ints.of_own ox
      clear bw1 ox
      go_wp2_with fail
      refine (equal_at Ax _ [0, 3, 6] [0, 3, 6] _ _ _ _ _ (by exact Ints.alloc hx _) (by exact Ints.lit _ _ _ _ rfl (by decide)) rfl rfl).mono ?_
      rintro e w2 ⟨rfl, nw2, hww2⟩
      have bw2 := below_of_drewN hww2
      clear hww2
      replace bw2 := below_of1 bw2
      replace h0 := h0.below bw2
      replace hb := below_trans hb bw2
      clear bw2
      rw [eqB_true rfl]
      clear hx
      go_wp2_with fail
      refine (check_any a0 l0 c0 _ h0).mono ?_
      rintro e w' ⟨rfl, rfl⟩
      go_wp2_with fail
      refine (clos_yes a0 l0 x _ c0 _ zx h0 k0 rfl).mono ?_
      rintro e w3 ⟨Ax, cx, rfl, ox, bw3⟩
      replace h0 := h0.below bw3
      replace hb := below_trans hb bw3
      have hx := Ints.of_own ox
      clear bw3 ox
      go_wp2_with fail
      refine (nought_ok a0 l0 N _ c0 _ zn h0 rfl).mono ?_
      rintro e w4 ⟨Ap, cp, rfl, op, bw4⟩
      replace h0 := h0.below bw4
      replace hx := hx.below bw4
      replace hb := below_trans hb bw4
      have hp := Ints.of_own op
      clear bw4 op
      go_wp2_with fail
      refine (pow_yes Ap N x _ cp 1 _ zp B0.out hp rfl).mono ?_
      rintro e w5 ⟨Ay, cy, rfl, oy, bw5⟩
      replace hx := hx.below bw5
      replace hb := below_trans hb bw5
      have hy := Ints.of_own oy
      clear bw5 oy
      go_wp2_with fail
      refine (equal_at Ax Ay x x _ _ _ _ _ hx hy rfl rfl).mono ?_
      rintro e w6 ⟨rfl, nw6, hww6⟩
      have bw6 := below_of_drewN hww6
      clear hww6
      replace hb := below_trans hb bw6
      clear bw6
      rw [eqB_true rfl]
      go_wp2
      go_ret
      exact ⟨rfl, hb⟩
    · obtain ⟨n, hn⟩ : ∃ n : Nat, n = l0.length - 1 := ⟨_, rfl⟩
      have zp := clos_pow zx zn (K := (n : Int)) (by omega)
      have f0 : (l0.length : Int) - 1 = (n : Int) := by omega
      have f1 : (1 : Int) < (n : Int) := by omega
      have HN := Lib.hid hn
      clear hn hl
      go_enter Try.func6, Try.ntmps6
      go_wp2_with fail
      refine (clos_yes _ [0, 3, 9] [0, 3, 6] _ _ _ clos_lit2 (by exact Ints.lit _ _ _ _ rfl (by decide)) (by decide) rfl).mono ?_
      rintro e w1 ⟨Ax, cx, rfl, ox, bw1⟩
      replace bw1 := below_of1 bw1
      replace h0 := h0.below bw1
      replace hb := below_trans hb bw1
      have hx := Ints.of_own ox
      clear bw1 ox
      go_wp2_with fail
      refine (equal_at Ax _ [0, 3, 6] [0, 3, 6] _ _ _ _ _ (by exact Ints.alloc hx _) (by exact Ints.lit _ _ _ _ rfl (by decide)) rfl rfl).mono ?_
      rintro e w2 ⟨rfl, nw2, hww2⟩
      have bw2 := below_of_drewN hww2
      clear hww2
      replace bw2 := below_of1 bw2
      replace h0 := h0.below bw2
      replace hb := below_trans hb bw2
      clear bw2
      rw [eqB_true rfl]
      clear hx
      go_wp2_with fail
      refine (check_any a0 l0 c0 _ h0).mono ?_
      rintro e w' ⟨rfl, rfl⟩
      go_wp2_with fail
      refine (clos_yes a0 l0 x _ c0 _ zx h0 k0 rfl).mono ?_
      rintro e w3 ⟨Ax, cx, rfl, ox, bw3⟩
      replace h0 := h0.below bw3
      replace hb := below_trans hb bw3
      have hx := Ints.of_own ox
      clear bw3 ox
      go_wp2_with fail
      refine (nought_ok a0 l0 N _ c0 _ zn h0 rfl).mono ?_
      rintro e w4 ⟨Ap, cp, rfl, op, bw4⟩
      replace h0 := h0.below bw4
      replace hx := hx.below bw4
      replace hb := below_trans hb bw4
      have hp := Ints.of_own op
      clear bw4 op
      go_wp2_with fail
      refine (pow_yes Ap N x _ cp n _ zp B0.out hp rfl).mono ?_
      rintro e w5 ⟨Ay, cy, rfl, oy, bw5⟩
      replace hx := hx.below bw5
      replace hb := below_trans hb bw5
      have hy := Ints.of_own oy
      clear bw5 oy
      go_wp2_with fail
      refine (equal_at Ax Ay x x _ _ _ _ _ hx hy rfl rfl).mono ?_
      rintro e w6 ⟨rfl, nw6, hww6⟩
      have bw6 := below_of_drewN hww6
      clear hww6
      replace hb := below_trans hb bw6
      clear bw6
      rw [eqB_true rfl]
      go_wp2
      go_ret
      exact ⟨rfl, hb⟩
  · have t1 : (chk l0 != 0) = true := by simp [g]
    clear g
    go_enter Try.func6, Try.ntmps6
    go_wp2_with fail
    refine (clos_yes _ [0, 3, 9] [0, 3, 6] _ _ _ clos_lit2 (by exact Ints.lit _ _ _ _ rfl (by decide)) (by decide) rfl).mono ?_
    rintro e w1 ⟨Ax, cx, rfl, ox, bw1⟩
    replace bw1 := below_of1 bw1
    replace h0 := h0.below bw1
    replace hb := below_trans hb bw1
    have hx := Ints.of_own ox
    clear bw1 ox
    go_wp2_with fail
    refine (equal_at Ax _ [0, 3, 6] [0, 3, 6] _ _ _ _ _ (by exact Ints.alloc hx _) (by exact Ints.lit _ _ _ _ rfl (by decide)) rfl rfl).mono ?_
    rintro e w2 ⟨rfl, nw2, hww2⟩
    have bw2 := below_of_drewN hww2
    clear hww2
    replace bw2 := below_of1 bw2
    replace h0 := h0.below bw2
    replace hb := below_trans hb bw2
    clear bw2
    rw [eqB_true rfl]
    clear hx
    go_wp2_with fail
    refine (check_any a0 l0 c0 _ h0).mono ?_
    rintro e w' ⟨rfl, rfl⟩
    go_wp2
    go_ret
    exact ⟨rfl, hb⟩

end Go.Proofs.Ythcpfbaaklemjaa
