
/-
  The walk of the law ClosureConv.
-/
import Derived.Test.YthjdabmlilnepaaCloK
namespace Go.Proofs.Ythjdabmlilnepaa
set_option linter.all false
open Go.RowKit Go.Shelf


theorem is_lit : Hid (subB [0, 3, 6] = true) := Lib.hid (by decide)

set_option maxHeartbeats 3200000 in
theorem walk_ClosureConv (a0 : Option Addr) (c0 : Nat) (l0 : List Int) (a1 : Option Addr) (c1 : Nat) (l1 : List Int) (w : World)
    (h0 : Ints w a0 l0) (k0 : l0.length ≤ c0) (h1 : Ints w a1 l1) (k1 : l1.length ≤ c1) :
    Calls Try.prog 14 #[.slice a0 l0.length c0, .slice a1 l1.length c1] w fun e w' => e = .returned (.bool true) ∧ Below w.heap.size w w' := by
  have hb : Below w.heap.size w w := Below.refl _ _
  cases t1 : okB l0 l1
  · have T1 := Lib.hid t1
    clear t1
    go_enter Try.func14, Try.ntmps14
    go_wp2_with fail
    refine (is_ok _ [0, 3, 6] _ _ true _ (cv_of (by decide)) is_lit (by exact Ints.lit _ _ _ _ rfl (by decide)) (by decide) rfl).mono ?_
    rintro e w1 ⟨rfl, bw1⟩
    replace bw1 := below_of1 bw1
    replace h0 := h0.below bw1
    replace h1 := h1.below bw1
    replace hb := below_trans hb bw1
    clear bw1
    go_wp2_with fail
    refine (both_any a0 a1 l0 l1 c0 c1 _ h0 h1).mono ?_
    rintro e w' ⟨rfl, rfl⟩
    rw [T1.out]
    go_wp2
    go_ret
    exact ⟨rfl, hb⟩
  obtain ⟨v0, v1, e01⟩ := chk2_iff.1 (chk2_of_okB t1)
  have T1 := Lib.hid t1
  clear t1
  obtain ⟨x, zx⟩ := ex_clos v0
  obtain ⟨y, zy⟩ := ex_clos v1
  obtain ⟨m, zm⟩ := ex_min v0 v1 e01
  obtain ⟨v, zv⟩ := ex_clos zm.r
  have zz := zx.self
  have zw := clos_conv zx zy zm zv
  have Bx := Lib.hid zx.r.small
  have Bv := Lib.hid zv.r.small
  clear e01
  go_enter Try.func14, Try.ntmps14
  go_wp2_with fail
  refine (is_ok _ [0, 3, 6] _ _ true _ (cv_of (by decide)) is_lit (by exact Ints.lit _ _ _ _ rfl (by decide)) (by decide) rfl).mono ?_
  rintro e w1 ⟨rfl, bw1⟩
  replace bw1 := below_of1 bw1
  replace h0 := h0.below bw1
  replace h1 := h1.below bw1
  replace hb := below_trans hb bw1
  clear bw1
  go_wp2_with fail
  refine (both_any a0 a1 l0 l1 c0 c1 _ h0 h1).mono ?_
  rintro e w' ⟨rfl, rfl⟩
  rw [T1.out]
  go_wp2_with fail
  refine (clos_yes a0 l0 x _ c0 _ zx h0 k0 rfl).mono ?_
  rintro e w2 ⟨Ax, cx, rfl, ox, bw2⟩
  replace h0 := h0.below bw2
  replace h1 := h1.below bw2
  replace hb := below_trans hb bw2
  have hx := Ints.of_own ox
  clear bw2 ox
  go_wp2_with fail
  refine (clos_yes a1 l1 y _ c1 _ zy h1 k1 rfl).mono ?_
  rintro e w3 ⟨Ay, cy, rfl, oy, bw3⟩
  replace h0 := h0.below bw3
  replace h1 := h1.below bw3
  replace hx := hx.below bw3
  replace hb := below_trans hb bw3
  have hy := Ints.of_own oy
  clear bw3 oy
  go_wp2_with fail
  refine (conv_yes Ax Ax x x x _ _ cx cx _ zz Bx.out hx hx rfl rfl).mono ?_
  rintro e w4 ⟨Az, cz, rfl, oz, bw4⟩
  replace h0 := h0.below bw4
  replace h1 := h1.below bw4
  replace hx := hx.below bw4
  replace hy := hy.below bw4
  replace hb := below_trans hb bw4
  have hz := Ints.of_own oz
  clear bw4 oz
  go_wp2_with fail
  refine (conv_yes Ax Ay x y v _ _ cx cy _ zw Bv.out hx hy rfl rfl).mono ?_
  rintro e w5 ⟨Aw, cw, rfl, ow, bw5⟩
  replace h0 := h0.below bw5
  replace h1 := h1.below bw5
  replace hx := hx.below bw5
  replace hz := hz.below bw5
  replace hb := below_trans hb bw5
  have hw := Ints.of_own ow
  clear bw5 ow
  go_wp2_with fail
  refine (min_ok a0 a1 l0 l1 m c0 c1 _ zm h0 h1).mono ?_
  rintro e w6 ⟨Am, cm, rfl, om, bw6⟩
  replace hx := hx.below bw6
  replace hz := hz.below bw6
  replace hw := hw.below bw6
  replace hb := below_trans hb bw6
  have hm := Ints.of_own om
  have km := own_cap om
  clear bw6 om
  go_wp2_with fail
  refine (clos_yes Am m v _ cm _ zv hm km rfl).mono ?_
  rintro e w7 ⟨Av, cv, rfl, ov, bw7⟩
  replace hx := hx.below bw7
  replace hz := hz.below bw7
  replace hw := hw.below bw7
  replace hb := below_trans hb bw7
  have hv := Ints.of_own ov
  clear bw7 ov
  go_wp2_with fail
  refine (equal_at Az Ax x x _ _ _ _ _ hz hx rfl rfl).mono ?_
  rintro e w8 ⟨rfl, nw8, hww8⟩
  have bw8 := below_of_drewN hww8
  clear hww8
  replace hw := hw.below bw8
  replace hv := hv.below bw8
  replace hb := below_trans hb bw8
  clear bw8
  rw [eqB_true rfl]
  go_wp2_with fail
  refine (equal_at Aw Av v v _ _ _ _ _ hw hv rfl rfl).mono ?_
  rintro e w9 ⟨rfl, nw9, hww9⟩
  have bw9 := below_of_drewN hww9
  clear hww9
  replace hb := below_trans hb bw9
  clear bw9
  rw [eqB_true rfl]
  go_wp2
  go_ret
  exact ⟨rfl, hb⟩

end Go.Proofs.Ythjdabmlilnepaa
