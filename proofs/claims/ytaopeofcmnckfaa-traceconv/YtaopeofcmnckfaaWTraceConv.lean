
/-
  The walk of the law TraceConv.
-/
import Derived.Test.YtaopeofcmnckfaaBoundK
namespace Go.Proofs.Ytaopeofcmnckfaa
set_option linter.all false
open Go.RowKit Go.Shelf



set_option maxHeartbeats 3200000 in
theorem walk_TraceConv (a0 : Option Addr) (c0 : Nat) (l0 : List Int) (a1 : Option Addr) (c1 : Nat) (l1 : List Int) (w : World)
    (h0 : Ints w a0 l0) (k0 : l0.length ≤ c0) (h1 : Ints w a1 l1) (k1 : l1.length ≤ c1) :
    Calls Try.prog 8 #[.slice a0 l0.length c0, .slice a1 l1.length c1] w fun e w' => e = .returned (.bool true) ∧ Below w.heap.size w w' := by
  have hb : Below w.heap.size w w := Below.refl _ _
  cases t1 : okB l0 l1
  · have T1 := Lib.hid t1
    clear t1
    go_enter Try.func8, Try.ntmps8
    go_wp2_with fail
    refine (fit_lits _ _ [0, 5, 6] [0, 4, 9] _ _ _ _ false _ (by decide) (by decide) (by exact Ints.litA _ _ _ _ _ rfl (by decide)) (by exact Ints.litB _ _ _ _ _ rfl (by decide)) (by decide) rfl rfl).mono ?_
    rintro e w1 ⟨rfl, bw1⟩
    replace bw1 := below_of2 bw1
    replace h0 := h0.below bw1
    replace h1 := h1.below bw1
    replace hb := below_trans hb bw1
    clear bw1
    go_wp2_with fail
    refine (fit_lits _ _ [0, 5, 6] [0, 5, 9] _ _ _ _ true _ (by decide) (by decide) (by exact Ints.litA _ _ _ _ _ rfl (by decide)) (by exact Ints.litB _ _ _ _ _ rfl (by decide)) (by decide) rfl rfl).mono ?_
    rintro e w2 ⟨rfl, bw2⟩
    replace bw2 := below_of2 bw2
    replace h0 := h0.below bw2
    replace h1 := h1.below bw2
    replace hb := below_trans hb bw2
    clear bw2
    go_wp2_with fail
    refine (both_any a0 a1 l0 l1 c0 c1 _ h0 h1).mono ?_
    rintro e w' ⟨rfl, rfl⟩
    rw [T1.out]
    go_wp2
    go_ret
    exact ⟨rfl, hb⟩
  obtain ⟨v0, v1, e01⟩ := chk2_iff.1 (chk2_of_okB t1)
  have T1 := Lib.hid t1
  clear t1
  obtain ⟨c, zc⟩ := ex_clos v1
  obtain ⟨x, zx⟩ := ex_conv v0 v1 e01
  have vc := zc.r
  have ec := zc.rlen
  have ex := zx.rlen
  obtain ⟨s, hs⟩ : ∃ s, s = fitB l0 l1 := ⟨_, rfl⟩
  have S1 : Hid (Hid (fitB l0 l1 = s)) := Lib.hid (Lib.hid hs.symm)
  have S2 : Hid (Hid (fitB l0 c = s)) := Lib.hid (Lib.hid (by
    rw [hs]
    apply bool_eq
    rw [fitB_iff v0 vc (by omega), fitB_iff v0 v1 e01]
    exact (fit_clos v0 e01 zc).symm))
  have E01 := Lib.hid e01
  have EC : Hid (l0.length = c.length) := Lib.hid (by omega)
  have t1 : (s != s) = false := by simp
  have t2 : (s == s) = true := by simp
  cases bx : bigB x
  · have S3 : Hid (leK l0 x = s) := Lib.hid (by
      rw [hs]
      apply bool_eq
      rw [fitB_iff v0 v1 e01, leK_iff v0 (zx.curve bx) (by omega)]
      exact (fit_conv zx).symm)
    have Bx := Lib.hid bx
    clear bx
    clear hs e01 ec ex
    go_enter Try.func8, Try.ntmps8
    go_wp2_with fail
    refine (fit_lits _ _ [0, 5, 6] [0, 4, 9] _ _ _ _ false _ (by decide) (by decide) (by exact Ints.litA _ _ _ _ _ rfl (by decide)) (by exact Ints.litB _ _ _ _ _ rfl (by decide)) (by decide) rfl rfl).mono ?_
    rintro e w1 ⟨rfl, bw1⟩
    replace bw1 := below_of2 bw1
    replace h0 := h0.below bw1
    replace h1 := h1.below bw1
    replace hb := below_trans hb bw1
    clear bw1
    go_wp2_with fail
    refine (fit_lits _ _ [0, 5, 6] [0, 5, 9] _ _ _ _ true _ (by decide) (by decide) (by exact Ints.litA _ _ _ _ _ rfl (by decide)) (by exact Ints.litB _ _ _ _ _ rfl (by decide)) (by decide) rfl rfl).mono ?_
    rintro e w2 ⟨rfl, bw2⟩
    replace bw2 := below_of2 bw2
    replace h0 := h0.below bw2
    replace h1 := h1.below bw2
    replace hb := below_trans hb bw2
    clear bw2
    go_wp2_with fail
    refine (both_any a0 a1 l0 l1 c0 c1 _ h0 h1).mono ?_
    rintro e w' ⟨rfl, rfl⟩
    rw [T1.out]
    go_wp2_with fail
    refine (fits_yes a0 a1 l0 l1 _ _ c0 c1 s _ v0 v1 E01.out S1.out h0 h1 k0 rfl rfl).mono ?_
    rintro e w3 ⟨rfl, bw3⟩
    replace h0 := h0.below bw3
    replace h1 := h1.below bw3
    replace hb := below_trans hb bw3
    clear bw3
    go_wp2_with fail
    refine (clos_yes a1 l1 c _ c1 _ zc h1 k1 rfl).mono ?_
    rintro e w4 ⟨Ac, cc, rfl, oc, bw4⟩
    replace h0 := h0.below bw4
    replace h1 := h1.below bw4
    replace hb := below_trans hb bw4
    have hc := Ints.of_own oc
    have kc := own_cap oc
    clear bw4 oc
    go_wp2_with fail
    refine (fits_yes a0 Ac l0 c _ _ c0 cc s _ v0 vc EC.out S2.out h0 hc k0 rfl rfl).mono ?_
    rintro e w5 ⟨rfl, bw5⟩
    replace h0 := h0.below bw5
    replace h1 := h1.below bw5
    replace hc := hc.below bw5
    replace hb := below_trans hb bw5
    clear bw5
    go_wp2_with fail
    refine (conv_yes a0 a1 l0 l1 x _ _ c0 c1 _ zx Bx.out h0 h1 rfl rfl).mono ?_
    rintro e w6 ⟨Ax, cx, rfl, ox, bw6⟩
    replace h0 := h0.below bw6
    replace hb := below_trans hb bw6
    have hx := Ints.of_own ox
    clear bw6 ox
    go_wp2_with fail
    refine (kle_at a0 Ax l0 x _ _ _ _ _ h0 hx rfl rfl).mono ?_
    rintro e w7 ⟨rfl, nw7, hww7⟩
    have bw7 := below_of_drewN hww7
    clear hww7
    replace hb := below_trans hb bw7
    clear bw7
    rw [S3.out]
    go_wp2
    go_ret
    exact ⟨rfl, hb⟩
  · have Bx := Lib.hid bx
    clear bx
    clear hs e01 ec ex
    go_enter Try.func8, Try.ntmps8
    go_wp2_with fail
    refine (fit_lits _ _ [0, 5, 6] [0, 4, 9] _ _ _ _ false _ (by decide) (by decide) (by exact Ints.litA _ _ _ _ _ rfl (by decide)) (by exact Ints.litB _ _ _ _ _ rfl (by decide)) (by decide) rfl rfl).mono ?_
    rintro e w1 ⟨rfl, bw1⟩
    replace bw1 := below_of2 bw1
    replace h0 := h0.below bw1
    replace h1 := h1.below bw1
    replace hb := below_trans hb bw1
    clear bw1
    go_wp2_with fail
    refine (fit_lits _ _ [0, 5, 6] [0, 5, 9] _ _ _ _ true _ (by decide) (by decide) (by exact Ints.litA _ _ _ _ _ rfl (by decide)) (by exact Ints.litB _ _ _ _ _ rfl (by decide)) (by decide) rfl rfl).mono ?_
    rintro e w2 ⟨rfl, bw2⟩
    replace bw2 := below_of2 bw2
    replace h0 := h0.below bw2
    replace h1 := h1.below bw2
    replace hb := below_trans hb bw2
    clear bw2
    go_wp2_with fail
    refine (both_any a0 a1 l0 l1 c0 c1 _ h0 h1).mono ?_
    rintro e w' ⟨rfl, rfl⟩
    rw [T1.out]
    go_wp2_with fail
    refine (fits_yes a0 a1 l0 l1 _ _ c0 c1 s _ v0 v1 E01.out S1.out h0 h1 k0 rfl rfl).mono ?_
    rintro e w3 ⟨rfl, bw3⟩
    replace h0 := h0.below bw3
    replace h1 := h1.below bw3
    replace hb := below_trans hb bw3
    clear bw3
    go_wp2_with fail
    refine (clos_yes a1 l1 c _ c1 _ zc h1 k1 rfl).mono ?_
    rintro e w4 ⟨Ac, cc, rfl, oc, bw4⟩
    replace h0 := h0.below bw4
    replace h1 := h1.below bw4
    replace hb := below_trans hb bw4
    have hc := Ints.of_own oc
    have kc := own_cap oc
    clear bw4 oc
    go_wp2_with fail
    refine (fits_yes a0 Ac l0 c _ _ c0 cc s _ v0 vc EC.out S2.out h0 hc k0 rfl rfl).mono ?_
    rintro e w5 ⟨rfl, bw5⟩
    replace h0 := h0.below bw5
    replace h1 := h1.below bw5
    replace hc := hc.below bw5
    replace hb := below_trans hb bw5
    clear bw5
    go_wp2_with fail
    refine (conv_no a0 a1 l0 l1 x _ _ c0 c1 _ zx Bx.out h0 h1 rfl rfl).mono ?_
    rintro e w6 ⟨Ax, cx, rfl, ox, bw6⟩
    replace h0 := h0.below bw6
    replace hb := below_trans hb bw6
    have hx := Ints.of_own ox
    clear bw6 ox
    go_wp2
    go_ret
    exact ⟨rfl, hb⟩

end Go.Proofs.Ytaopeofcmnckfaa
