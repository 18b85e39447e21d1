
/-
  The walk of the law ShaperTwo.
-/
import Derived.Test.YtbefkjglhlembaaShaperA
namespace Go.Proofs.Ytbefkjglhlembaa
set_option linter.all false
open Go.RowKit Go.Shelf


theorem shap_lit3 : Shaps [0, 9] [0, 4] [0, 4] [0, 4] := shap_lits (by decide) (by decide) (by decide)

set_option maxHeartbeats 3200000 in
theorem walk_ShaperTwo (a0 : Option Addr) (c0 : Nat) (l0 : List Int) (a1 : Option Addr) (c1 : Nat) (l1 : List Int) (a2 : Option Addr) (c2 : Nat) (l2 : List Int) (w : World)
    (h0 : Ints w a0 l0) (k0 : l0.length ≤ c0) (h1 : Ints w a1 l1) (k1 : l1.length ≤ c1) (h2 : Ints w a2 l2) (k2 : l2.length ≤ c2) :
    Calls Try.prog 8 #[.slice a0 l0.length c0, .slice a1 l1.length c1, .slice a2 l2.length c2] w fun e w' => e = .returned (.bool true) ∧ Below w.heap.size w w' := by
  have hb : Below w.heap.size w w := Below.refl _ _
  cases t1 : okB l0 l1
  · have T1 := Lib.hid t1
    clear t1
    go_enter Try.func8, Try.ntmps8
    go_wp2_with fail
    refine (shaper_yes _ _ _ _ _ [0, 4] _ _ _ _ _ shap_lit3 (by exact Ints.litA _ _ _ _ _ rfl (by decide)) (by exact Ints.litB _ _ _ _ _ rfl (by decide)) (by decide) rfl rfl).mono ?_
    rintro e w1 ⟨Ax, cx, rfl, ox, bw1⟩
    replace bw1 := below_of2 bw1
    replace h0 := h0.below bw1
    replace h1 := h1.below bw1
    replace h2 := h2.below bw1
    replace hb := below_trans hb bw1
    have hx := Ints.of_own ox
    clear bw1 ox
    go_wp2_with fail
    refine (equal_at Ax _ [0, 4] [0, 4] _ _ _ _ _ (by exact Ints.alloc hx _) (by exact Ints.lit _ _ _ _ rfl (by decide)) rfl rfl).mono ?_
    rintro e w2 ⟨rfl, nw2, hww2⟩
    have bw2 := below_of_drewN hww2
    clear hww2
    replace bw2 := below_of1 bw2
    replace h0 := h0.below bw2
    replace h1 := h1.below bw2
    replace h2 := h2.below bw2
    replace hb := below_trans hb bw2
    clear bw2
    rw [eqB_true rfl]
    clear hx
    go_wp2_with fail
    refine (three_any a0 a1 a2 l0 l1 l2 c0 c1 c2 _ h0 h1 h2).mono ?_
    rintro e w' ⟨rfl, rfl⟩
    rw [T1.out]
    go_wp2
    go_ret
    exact ⟨rfl, hb⟩
  cases t2 : okB l1 l2
  · have T1 := Lib.hid t1
    have T2 := Lib.hid t2
    clear t1 t2
    go_enter Try.func8, Try.ntmps8
    go_wp2_with fail
    refine (shaper_yes _ _ _ _ _ [0, 4] _ _ _ _ _ shap_lit3 (by exact Ints.litA _ _ _ _ _ rfl (by decide)) (by exact Ints.litB _ _ _ _ _ rfl (by decide)) (by decide) rfl rfl).mono ?_
    rintro e w1 ⟨Ax, cx, rfl, ox, bw1⟩
    replace bw1 := below_of2 bw1
    replace h0 := h0.below bw1
    replace h1 := h1.below bw1
    replace h2 := h2.below bw1
    replace hb := below_trans hb bw1
    have hx := Ints.of_own ox
    clear bw1 ox
    go_wp2_with fail
    refine (equal_at Ax _ [0, 4] [0, 4] _ _ _ _ _ (by exact Ints.alloc hx _) (by exact Ints.lit _ _ _ _ rfl (by decide)) rfl rfl).mono ?_
    rintro e w2 ⟨rfl, nw2, hww2⟩
    have bw2 := below_of_drewN hww2
    clear hww2
    replace bw2 := below_of1 bw2
    replace h0 := h0.below bw2
    replace h1 := h1.below bw2
    replace h2 := h2.below bw2
    replace hb := below_trans hb bw2
    clear bw2
    rw [eqB_true rfl]
    clear hx
    go_wp2_with fail
    refine (three_any a0 a1 a2 l0 l1 l2 c0 c1 c2 _ h0 h1 h2).mono ?_
    rintro e w' ⟨rfl, rfl⟩
    rw [T1.out, T2.out]
    go_wp2
    go_ret
    exact ⟨rfl, hb⟩
  obtain ⟨v0, v1, e01⟩ := chk2_iff.1 (chk2_of_okB t1)
  obtain ⟨_, v2, e12⟩ := chk2_iff.1 (chk2_of_okB t2)
  have T1 := Lib.hid t1
  have T2 := Lib.hid t2
  clear t1 t2
  obtain ⟨cf, x, zx⟩ := ex_shap v0 v1 e01
  obtain ⟨cg, y, zy⟩ := ex_shap zx.r v2 (by rw [zx.rlen]; omega)
  obtain ⟨cg', z, zz⟩ := ex_shap v0 v2 (by omega)
  obtain ⟨cf', u, zu⟩ := ex_shap zz.r v1 (by rw [zz.rlen]; omega)
  obtain ⟨m, zm⟩ := ex_min v1 v2 e12
  obtain ⟨km', v, zv⟩ := ex_shap v0 zm.r (by rw [zm.rlen]; omega)
  obtain ⟨m', zm'⟩ := ex_min v2 v1 e12.symm
  obtain rfl : m' = m := list_ext (by rw [zm'.rlen, zm.rlen, e12]) (fun t ht => by
    have := zm'.rlen
    have h1 := zm.val t (by omega); have h2 := zm'.val t (by omega); omega)
  obtain rfl : y = v := shap_two (cg' := cg) zx zy zm zv
  obtain rfl : u = y := shap_two (cg' := cg) zz zu zm' zv
  have ZX := Lib.hid zx
  have ZY := Lib.hid zy
  have ZZ := Lib.hid zz
  have ZU := Lib.hid zu
  have ZV := Lib.hid zv
  clear zx zy zz zu zv zm' e01 e12
  go_enter Try.func8, Try.ntmps8
  go_wp2_with fail
  refine (shaper_yes _ _ _ _ _ [0, 4] _ _ _ _ _ shap_lit3 (by exact Ints.litA _ _ _ _ _ rfl (by decide)) (by exact Ints.litB _ _ _ _ _ rfl (by decide)) (by decide) rfl rfl).mono ?_
  rintro e w1 ⟨Ax, cx, rfl, ox, bw1⟩
  replace bw1 := below_of2 bw1
  replace h0 := h0.below bw1
  replace h1 := h1.below bw1
  replace h2 := h2.below bw1
  replace hb := below_trans hb bw1
  have hx := Ints.of_own ox
  clear bw1 ox
  go_wp2_with fail
  refine (equal_at Ax _ [0, 4] [0, 4] _ _ _ _ _ (by exact Ints.alloc hx _) (by exact Ints.lit _ _ _ _ rfl (by decide)) rfl rfl).mono ?_
  rintro e w2 ⟨rfl, nw2, hww2⟩
  have bw2 := below_of_drewN hww2
  clear hww2
  replace bw2 := below_of1 bw2
  replace h0 := h0.below bw2
  replace h1 := h1.below bw2
  replace h2 := h2.below bw2
  replace hb := below_trans hb bw2
  clear bw2
  rw [eqB_true rfl]
  clear hx
  go_wp2_with fail
  refine (three_any a0 a1 a2 l0 l1 l2 c0 c1 c2 _ h0 h1 h2).mono ?_
  rintro e w' ⟨rfl, rfl⟩
  rw [T1.out, T2.out]
  go_wp2_with fail
  refine (shaper_yes a0 a1 l0 l1 cf x _ _ c0 c1 _ ZX.out h0 h1 k1 rfl rfl).mono ?_
  rintro e w3 ⟨Ax, cx, rfl, ox, bw3⟩
  replace h0 := h0.below bw3
  replace h1 := h1.below bw3
  replace h2 := h2.below bw3
  replace hb := below_trans hb bw3
  have hx := Ints.of_own ox
  clear bw3 ox
  go_wp2_with fail
  refine (shaper_yes Ax a2 x l2 cg u _ _ cx c2 _ ZY.out hx h2 k2 rfl rfl).mono ?_
  rintro e w4 ⟨Ay, cy, rfl, oy, bw4⟩
  replace h0 := h0.below bw4
  replace h1 := h1.below bw4
  replace h2 := h2.below bw4
  replace hb := below_trans hb bw4
  have hy := Ints.of_own oy
  clear bw4 oy
  go_wp2_with fail
  refine (shaper_yes a0 a2 l0 l2 cg' z _ _ c0 c2 _ ZZ.out h0 h2 k2 rfl rfl).mono ?_
  rintro e w5 ⟨Az, cz, rfl, oz, bw5⟩
  replace h0 := h0.below bw5
  replace h1 := h1.below bw5
  replace h2 := h2.below bw5
  replace hy := hy.below bw5
  replace hb := below_trans hb bw5
  have hz := Ints.of_own oz
  clear bw5 oz
  go_wp2_with fail
  refine (shaper_yes Az a1 z l1 cf' u _ _ cz c1 _ ZU.out hz h1 k1 rfl rfl).mono ?_
  rintro e w6 ⟨Au, cu, rfl, ou, bw6⟩
  replace h0 := h0.below bw6
  replace h1 := h1.below bw6
  replace h2 := h2.below bw6
  replace hy := hy.below bw6
  replace hb := below_trans hb bw6
  have hu := Ints.of_own ou
  clear bw6 ou
  go_wp2_with fail
  refine (pmin_at a1 a2 l1 l2 m' _ _ c1 c2 _ zm h1 h2 rfl rfl).mono ?_
  rintro e w7 ⟨Am, cm, rfl, om, bw7⟩
  replace h0 := h0.below bw7
  replace hy := hy.below bw7
  replace hu := hu.below bw7
  replace hb := below_trans hb bw7
  have hm := Ints.of_own om
  have km := own_cap om
  clear bw7 om
  go_wp2_with fail
  refine (shaper_yes a0 Am l0 m' km' u _ _ c0 _ _ ZV.out h0 hm km rfl rfl).mono ?_
  rintro e w8 ⟨Av, cv, rfl, ov, bw8⟩
  replace hy := hy.below bw8
  replace hu := hu.below bw8
  replace hb := below_trans hb bw8
  have hv := Ints.of_own ov
  clear bw8 ov
  go_wp2_with fail
  refine (equal_at Ay Au u u _ _ _ _ _ hy hu rfl rfl).mono ?_
  rintro e w9 ⟨rfl, nw9, hww9⟩
  have bw9 := below_of_drewN hww9
  clear hww9
  replace hy := hy.below bw9
  replace hv := hv.below bw9
  replace hb := below_trans hb bw9
  clear bw9
  rw [eqB_true rfl]
  go_wp2_with fail
  refine (equal_at Ay Av u u _ _ _ _ _ hy hv rfl rfl).mono ?_
  rintro e wa ⟨rfl, nwa, hwwa⟩
  have bwa := below_of_drewN hwwa
  clear hwwa
  replace hb := below_trans hb bwa
  clear bwa
  rw [eqB_true rfl]
  go_wp2
  go_ret
  exact ⟨rfl, hb⟩

end Go.Proofs.Ytbefkjglhlembaa
