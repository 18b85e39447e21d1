
/-
  The walk of the law ShaperMost.
-/
import Derived.Test.YtbefkjglhlembaaShaperA
namespace Go.Proofs.Ytbefkjglhlembaa
set_option linter.all false
open Go.RowKit Go.Shelf


theorem shap_lit : Shaps [0, 9, 9, 9] [0, 2, 9, 9] [0, 2, 4, 6] [0, 2, 4, 6] := shap_lits (by decide) (by decide) (by decide)

set_option maxHeartbeats 3200000 in
theorem walk_ShaperMost (a0 : Option Addr) (c0 : Nat) (l0 : List Int) (a1 : Option Addr) (c1 : Nat) (l1 : List Int) (a2 : Option Addr) (c2 : Nat) (l2 : List Int) (w : World)
    (h0 : Ints w a0 l0) (k0 : l0.length ≤ c0) (h1 : Ints w a1 l1) (k1 : l1.length ≤ c1) (h2 : Ints w a2 l2) (k2 : l2.length ≤ c2) :
    Calls Try.prog 6 #[.slice a0 l0.length c0, .slice a1 l1.length c1, .slice a2 l2.length c2] w fun e w' => e = .returned (.bool true) ∧ Below w.heap.size w w' := by
  have hb : Below w.heap.size w w := Below.refl _ _
  cases t1 : okB l0 l1
  · have T1 := Lib.hid t1
    clear t1
    go_enter Try.func6, Try.ntmps6
    go_wp2_with fail
    refine (shaper_yes _ _ _ _ _ [0, 2, 4, 6] _ _ _ _ _ shap_lit (by exact Ints.litA _ _ _ _ _ rfl (by decide)) (by exact Ints.litB _ _ _ _ _ rfl (by decide)) (by decide) rfl rfl).mono ?_
    rintro e w1 ⟨Ax, cx, rfl, ox, bw1⟩
    replace bw1 := below_of2 bw1
    replace h0 := h0.below bw1
    replace h1 := h1.below bw1
    replace h2 := h2.below bw1
    replace hb := below_trans hb bw1
    have hx := Ints.of_own ox
    clear bw1 ox
    go_wp2_with fail
    refine (equal_at Ax _ [0, 2, 4, 6] [0, 2, 4, 6] _ _ _ _ _ (by exact Ints.alloc hx _) (by exact Ints.lit _ _ _ _ rfl (by decide)) rfl rfl).mono ?_
    rintro e w2 ⟨rfl, nw2, hww2⟩
    have bw2 := below_of_drewN hww2
    clear hww2
    replace bw2 := below_of1 bw2
    replace h0 := h0.below bw2
    replace h1 := h1.below bw2
    replace h2 := h2.below bw2
    replace hb := below_trans hb bw2
    clear bw2
    rw [eqB_true rfl]
    clear hx
    go_wp2_with fail
    refine (three_any a0 a1 a2 l0 l1 l2 c0 c1 c2 _ h0 h1 h2).mono ?_
    rintro e w' ⟨rfl, rfl⟩
    rw [T1.out]
    go_wp2
    go_ret
    exact ⟨rfl, hb⟩
  cases t2 : okB l1 l2
  · have T1 := Lib.hid t1
    have T2 := Lib.hid t2
    clear t1 t2
    go_enter Try.func6, Try.ntmps6
    go_wp2_with fail
    refine (shaper_yes _ _ _ _ _ [0, 2, 4, 6] _ _ _ _ _ shap_lit (by exact Ints.litA _ _ _ _ _ rfl (by decide)) (by exact Ints.litB _ _ _ _ _ rfl (by decide)) (by decide) rfl rfl).mono ?_
    rintro e w1 ⟨Ax, cx, rfl, ox, bw1⟩
    replace bw1 := below_of2 bw1
    replace h0 := h0.below bw1
    replace h1 := h1.below bw1
    replace h2 := h2.below bw1
    replace hb := below_trans hb bw1
    have hx := Ints.of_own ox
    clear bw1 ox
    go_wp2_with fail
    refine (equal_at Ax _ [0, 2, 4, 6] [0, 2, 4, 6] _ _ _ _ _ (by exact Ints.alloc hx _) (by exact Ints.lit _ _ _ _ rfl (by decide)) rfl rfl).mono ?_
    rintro e w2 ⟨rfl, nw2, hww2⟩
    have bw2 := below_of_drewN hww2
    clear hww2
    replace bw2 := below_of1 bw2
    replace h0 := h0.below bw2
    replace h1 := h1.below bw2
    replace h2 := h2.below bw2
    replace hb := below_trans hb bw2
    clear bw2
    rw [eqB_true rfl]
    clear hx
    go_wp2_with fail
    refine (three_any a0 a1 a2 l0 l1 l2 c0 c1 c2 _ h0 h1 h2).mono ?_
    rintro e w' ⟨rfl, rfl⟩
    rw [T1.out, T2.out]
    go_wp2
    go_ret
    exact ⟨rfl, hb⟩
  obtain ⟨v0, v1, e01⟩ := chk2_iff.1 (chk2_of_okB t1)
  obtain ⟨_, v2, e12⟩ := chk2_iff.1 (chk2_of_okB t2)
  have T1 := Lib.hid t1
  have T2 := Lib.hid t2
  clear t1 t2
  obtain ⟨c, x, z⟩ := ex_shap v0 v1 e01
  have vx := z.r
  have ex := z.rlen
  obtain ⟨s, hs⟩ : ∃ s, s = fitB l2 l1 := ⟨_, rfl⟩
  obtain ⟨d, hd⟩ : ∃ d, d = leK l2 l0 := ⟨_, rfl⟩
  have S1 : Hid (Hid (fitB x l1 = true)) := Lib.hid (Lib.hid ((fitB_iff vx v1 (by omega)).2 z.fit))
  have S2 : Hid (Hid (fitB l2 l1 = s)) := Lib.hid (Lib.hid hs.symm)
  have S3 : Hid (leK x l0 = true) := Lib.hid ((leK_iff vx v0 ex).2 (fun t ht => z.le t (by omega)))
  have S4 : Hid (leK l2 l0 = d) := Lib.hid hd.symm
  have EX : Hid (x.length = l1.length) := Lib.hid (by omega)
  have E2 : Hid (l2.length = l1.length) := Lib.hid (by omega)
  have S5 : Hid (¬ (s = true ∧ d = true ∧ leK l2 x = false)) := Lib.hid (fun ⟨q1, q2, q3⟩ => by
    rw [q1] at hs
    rw [q2] at hd
    refine Bool.false_ne_true (q3.symm.trans ((leK_iff v2 vx (by omega)).2 (fun t ht => ?_)))
    exact z.most v2 (by omega) ((fitB_iff v2 v1 (by omega)).1 hs.symm) (fun t ht => (leK_iff v2 v0 (by omega)).1 hd.symm t (by omega)) t (by omega))
  have Z := Lib.hid z
  clear hs hd ex e01 e12 z
  go_enter Try.func6, Try.ntmps6
  go_wp2_with fail
  refine (shaper_yes _ _ _ _ _ [0, 2, 4, 6] _ _ _ _ _ shap_lit (by exact Ints.litA _ _ _ _ _ rfl (by decide)) (by exact Ints.litB _ _ _ _ _ rfl (by decide)) (by decide) rfl rfl).mono ?_
  rintro e w1 ⟨Ax, cx, rfl, ox, bw1⟩
  replace bw1 := below_of2 bw1
  replace h0 := h0.below bw1
  replace h1 := h1.below bw1
  replace h2 := h2.below bw1
  replace hb := below_trans hb bw1
  have hx := Ints.of_own ox
  clear bw1 ox
  go_wp2_with fail
  refine (equal_at Ax _ [0, 2, 4, 6] [0, 2, 4, 6] _ _ _ _ _ (by exact Ints.alloc hx _) (by exact Ints.lit _ _ _ _ rfl (by decide)) rfl rfl).mono ?_
  rintro e w2 ⟨rfl, nw2, hww2⟩
  have bw2 := below_of_drewN hww2
  clear hww2
  replace bw2 := below_of1 bw2
  replace h0 := h0.below bw2
  replace h1 := h1.below bw2
  replace h2 := h2.below bw2
  replace hb := below_trans hb bw2
  clear bw2
  rw [eqB_true rfl]
  clear hx
  go_wp2_with fail
  refine (three_any a0 a1 a2 l0 l1 l2 c0 c1 c2 _ h0 h1 h2).mono ?_
  rintro e w' ⟨rfl, rfl⟩
  rw [T1.out, T2.out]
  go_wp2_with fail
  refine (shaper_yes a0 a1 l0 l1 c x _ _ c0 c1 _ Z.out h0 h1 k1 rfl rfl).mono ?_
  rintro e w3 ⟨Ax, cx, rfl, ox, bw3⟩
  replace h0 := h0.below bw3
  replace h1 := h1.below bw3
  replace h2 := h2.below bw3
  replace hb := below_trans hb bw3
  have hx := Ints.of_own ox
  have kx := own_cap ox
  clear bw3 ox
  go_wp2_with fail
  refine (fits_yes Ax a1 x l1 _ _ cx c1 true _ vx v1 EX.out S1.out hx h1 kx rfl rfl).mono ?_
  rintro e w4 ⟨rfl, bw4⟩
  replace h0 := h0.below bw4
  replace h1 := h1.below bw4
  replace h2 := h2.below bw4
  replace hx := hx.below bw4
  replace hb := below_trans hb bw4
  clear bw4
  go_wp2_with fail
  refine (fits_yes a2 a1 l2 l1 _ _ c2 c1 s _ v2 v1 E2.out S2.out h2 h1 k2 rfl rfl).mono ?_
  rintro e w5 ⟨rfl, bw5⟩
  replace h0 := h0.below bw5
  replace h1 := h1.below bw5
  replace h2 := h2.below bw5
  replace hx := hx.below bw5
  replace hb := below_trans hb bw5
  clear bw5
  go_wp2_with fail
  refine (kle_at Ax a0 x l0 _ _ _ _ _ hx h0 rfl rfl).mono ?_
  rintro e w6 ⟨rfl, nw6, hww6⟩
  have bw6 := below_of_drewN hww6
  clear hww6
  replace h0 := h0.below bw6
  replace h2 := h2.below bw6
  replace hx := hx.below bw6
  replace hb := below_trans hb bw6
  clear bw6
  rw [S3.out]
  cases s
  · go_wp2
    go_ret
    exact ⟨rfl, hb⟩
  · go_wp2_with fail
    refine (kle_at a2 a0 l2 l0 _ _ _ _ _ h2 h0 rfl rfl).mono ?_
    rintro e w7 ⟨rfl, nw7, hww7⟩
    have bw7 := below_of_drewN hww7
    clear hww7
    replace h2 := h2.below bw7
    replace hx := hx.below bw7
    replace hb := below_trans hb bw7
    clear bw7
    rw [S4.out]
    cases d
    · go_wp2
      go_ret
      exact ⟨rfl, hb⟩
    · go_wp2_with fail
      refine (kle_at a2 Ax l2 x _ _ _ _ _ h2 hx rfl rfl).mono ?_
      rintro e w8 ⟨rfl, nw8, hww8⟩
      have bw8 := below_of_drewN hww8
      clear hww8
      replace hb := below_trans hb bw8
      clear bw8
      rw [show leK l2 x = true by cases e : leK l2 x; exact absurd ⟨by trivial, by trivial, e⟩ S5.out; rfl]
      go_wp2
      go_ret
      exact ⟨rfl, hb⟩

end Go.Proofs.Ytbefkjglhlembaa
