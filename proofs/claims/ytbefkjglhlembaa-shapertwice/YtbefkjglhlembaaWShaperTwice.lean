
/-
  The walk of the law ShaperTwice.
-/
import Derived.Test.YtbefkjglhlembaaShaperA
namespace Go.Proofs.Ytbefkjglhlembaa
set_option linter.all false
open Go.RowKit Go.Shelf


theorem shap_lit2 : Shaps [0, 2, 4] [0, 2, 9] [0, 2, 4] [0, 2, 4] := shap_lits (by decide) (by decide) (by decide)

set_option maxHeartbeats 3200000 in
theorem walk_ShaperTwice (a0 : Option Addr) (c0 : Nat) (l0 : List Int) (a1 : Option Addr) (c1 : Nat) (l1 : List Int) (w : World)
    (h0 : Ints w a0 l0) (k0 : l0.length ≤ c0) (h1 : Ints w a1 l1) (k1 : l1.length ≤ c1) :
    Calls Try.prog 7 #[.slice a0 l0.length c0, .slice a1 l1.length c1] w fun e w' => e = .returned (.bool true) ∧ Below w.heap.size w w' := by
  have hb : Below w.heap.size w w := Below.refl _ _
  cases t1 : okB l0 l1
  · have T1 := Lib.hid t1
    clear t1
    go_enter Try.func7, Try.ntmps7
    go_wp2_with fail
    refine (shaper_yes _ _ _ _ _ [0, 2, 4] _ _ _ _ _ shap_lit2 (by exact Ints.litA _ _ _ _ _ rfl (by decide)) (by exact Ints.litB _ _ _ _ _ rfl (by decide)) (by decide) rfl rfl).mono ?_
    rintro e w1 ⟨Ax, cx, rfl, ox, bw1⟩
    replace bw1 := below_of2 bw1
    replace h0 := h0.below bw1
    replace h1 := h1.below bw1
    replace hb := below_trans hb bw1
    have hx := Ints.of_own ox
    clear bw1 ox
    go_wp2_with fail
    refine (equal_at Ax _ [0, 2, 4] [0, 2, 4] _ _ _ _ _ (by exact Ints.alloc hx _) (by exact Ints.lit _ _ _ _ rfl (by decide)) rfl rfl).mono ?_
    rintro e w2 ⟨rfl, nw2, hww2⟩
    have bw2 := below_of_drewN hww2
    clear hww2
    replace bw2 := below_of1 bw2
    replace h0 := h0.below bw2
    replace h1 := h1.below bw2
    replace hb := below_trans hb bw2
    clear bw2
    rw [eqB_true rfl]
    clear hx
    go_wp2_with fail
    refine (both_any a0 a1 l0 l1 c0 c1 _ h0 h1).mono ?_
    rintro e w' ⟨rfl, rfl⟩
    rw [T1.out]
    go_wp2
    go_ret
    exact ⟨rfl, hb⟩
  obtain ⟨v0, v1, e01⟩ := chk2_iff.1 (chk2_of_okB t1)
  have T1 := Lib.hid t1
  clear t1
  obtain ⟨c, x, z⟩ := ex_shap v0 v1 e01
  obtain ⟨s, hs⟩ : ∃ s, s = fitB l0 l1 := ⟨_, rfl⟩
  have S1 : Hid (Hid (fitB l0 l1 = s)) := Lib.hid (Lib.hid hs.symm)
  have S2 : Hid (eqB x l0 = s) := Lib.hid (by
    rw [hs]
    apply bool_eq
    rw [fitB_iff v0 v1 e01, ← z.same]
    exact decide_eq_true_iff)
  have E01 := Lib.hid e01
  have Z := Lib.hid z
  have Z2 := Lib.hid z.twice
  have t1 : (s == s) = true := by simp
  clear hs e01 z
  go_enter Try.func7, Try.ntmps7
  go_wp2_with fail
  refine (shaper_yes _ _ _ _ _ [0, 2, 4] _ _ _ _ _ shap_lit2 (by exact Ints.litA _ _ _ _ _ rfl (by decide)) (by exact Ints.litB _ _ _ _ _ rfl (by decide)) (by decide) rfl rfl).mono ?_
  rintro e w1 ⟨Ax, cx, rfl, ox, bw1⟩
  replace bw1 := below_of2 bw1
  replace h0 := h0.below bw1
  replace h1 := h1.below bw1
  replace hb := below_trans hb bw1
  have hx := Ints.of_own ox
  clear bw1 ox
  go_wp2_with fail
  refine (equal_at Ax _ [0, 2, 4] [0, 2, 4] _ _ _ _ _ (by exact Ints.alloc hx _) (by exact Ints.lit _ _ _ _ rfl (by decide)) rfl rfl).mono ?_
  rintro e w2 ⟨rfl, nw2, hww2⟩
  have bw2 := below_of_drewN hww2
  clear hww2
  replace bw2 := below_of1 bw2
  replace h0 := h0.below bw2
  replace h1 := h1.below bw2
  replace hb := below_trans hb bw2
  clear bw2
  rw [eqB_true rfl]
  clear hx
  go_wp2_with fail
  refine (both_any a0 a1 l0 l1 c0 c1 _ h0 h1).mono ?_
  rintro e w' ⟨rfl, rfl⟩
  rw [T1.out]
  go_wp2_with fail
  refine (shaper_yes a0 a1 l0 l1 c x _ _ c0 c1 _ Z.out h0 h1 k1 rfl rfl).mono ?_
  rintro e w3 ⟨Ax, cx, rfl, ox, bw3⟩
  replace h0 := h0.below bw3
  replace h1 := h1.below bw3
  replace hb := below_trans hb bw3
  have hx := Ints.of_own ox
  clear bw3 ox
  go_wp2_with fail
  refine (shaper_yes Ax a1 x l1 c x _ _ cx c1 _ Z2.out hx h1 k1 rfl rfl).mono ?_
  rintro e w4 ⟨Ay, cy, rfl, oy, bw4⟩
  replace h0 := h0.below bw4
  replace h1 := h1.below bw4
  replace hx := hx.below bw4
  replace hb := below_trans hb bw4
  have hy := Ints.of_own oy
  clear bw4 oy
  go_wp2_with fail
  refine (fits_yes a0 a1 l0 l1 _ _ c0 c1 s _ v0 v1 E01.out S1.out h0 h1 k0 rfl rfl).mono ?_
  rintro e w5 ⟨rfl, bw5⟩
  replace h0 := h0.below bw5
  replace hx := hx.below bw5
  replace hy := hy.below bw5
  replace hb := below_trans hb bw5
  clear bw5
  go_wp2_with fail
  refine (equal_at Ax Ay x x _ _ _ _ _ hx hy rfl rfl).mono ?_
  rintro e w6 ⟨rfl, nw6, hww6⟩
  have bw6 := below_of_drewN hww6
  clear hww6
  replace h0 := h0.below bw6
  replace hx := hx.below bw6
  replace hb := below_trans hb bw6
  clear bw6
  rw [eqB_true rfl]
  go_wp2_with fail
  refine (equal_at Ax a0 x l0 _ _ _ _ _ hx h0 rfl rfl).mono ?_
  rintro e w7 ⟨rfl, nw7, hww7⟩
  have bw7 := below_of_drewN hww7
  clear hww7
  replace hb := below_trans hb bw7
  clear bw7
  rw [S2.out]
  go_wp2
  go_ret
  exact ⟨rfl, hb⟩

end Go.Proofs.Ytbefkjglhlembaa
