
/-
  The walk of the law TraceBack.
-/
import Derived.Test.YtaopeofcmnckfaaBoundA
namespace Go.Proofs.Ytaopeofcmnckfaa
set_option linter.all false
open Go.RowKit Go.Shelf


theorem tr_lit : Tr [2, 0, 3] := trk_iff.1 (by decide)
theorem sum_yes (A : Option Addr) (l S : List Int) (nl c : Nat) (w : World) (v : Tr l) (hS : S = adL l) (h : Ints w A l) (hl : nl = l.length) :
    Calls Try.prog 16 #[.slice A nl c] w (Ans S 0 w) := by
  subst hl hS
  have := trSum_any A l c w h
  rw [trL_yes v, trk_iff.2 v] at this
  exact this
theorem slots_yes (A : Option Addr) (l S : List Int) (nl c : Nat) (w : World) (he : sloE l = 0) (hS : S = sloL l) (h : Ints w A l) (hl : nl = l.length) :
    Calls Try.prog 21 #[.slice A nl c] w (Ans S 0 w) := by
  subst hl hS
  have := slots_any A l c w h
  rw [he] at this
  exact this
theorem check_yes (A : Option Addr) (l : List Int) (nl c : Nat) (w : World) (v : Cv l) (h : Ints w A l) (hl : nl = l.length) :
    Calls Try.prog 35 #[.slice A nl c] w fun e w' => e = .returned (.int .i64 0) ∧ w = w' := by
  subst hl
  have := check_any A l c w h
  rw [chk_iff.2 v] at this
  exact this

set_option maxHeartbeats 3200000 in
theorem walk_TraceBack (a0 : Option Addr) (c0 : Nat) (l0 : List Int) (a1 : Option Addr) (c1 : Nat) (l1 : List Int) (w : World)
    (h0 : Ints w a0 l0) (k0 : l0.length ≤ c0) (h1 : Ints w a1 l1) (k1 : l1.length ≤ c1) :
    Calls Try.prog 6 #[.slice a0 l0.length c0, .slice a1 l1.length c1] w fun e w' => e = .returned (.bool true) ∧ Below w.heap.size w w' := by
  have hb : Below w.heap.size w w := Below.refl _ _
  by_cases q0 : trk l0 = 0
  · have v0 := trk_iff.1 q0
    obtain ⟨x, hx⟩ : ∃ x, x = adL l0 := ⟨_, rfl⟩
    have vx : Cv x := by rw [hx]; exact ad_cv v0
    have S0 : Hid (sloE x = 0) := Lib.hid (by rw [hx]; exact (ad_slo v0).1)
    have S1 : Hid (l0 = sloL x) := Lib.hid (by rw [hx]; exact (ad_slo v0).2.symm)
    have HX := Lib.hid hx
    clear hx q0
    by_cases q1 : sloE l1 = 0
    · obtain ⟨vz, ez⟩ := slo_tr q1
      obtain ⟨z, hz⟩ : ∃ z, z = sloL l1 := ⟨_, rfl⟩
      rw [← hz] at vz ez
      have T0 := Lib.hid q1
      have T1 := Lib.hid hz
      have T2 := Lib.hid ez
      clear q1 hz ez
      go_enter Try.func6, Try.ntmps6
      go_wp2_with fail
      refine (sum_yes _ [2, 0, 3] [0, 2, 2, 5] _ _ _ tr_lit (by decide) (by exact Ints.lit _ _ _ _ rfl (by decide)) rfl).mono ?_
      rintro e w1 ⟨Ax, cx, rfl, ox, bw1⟩
      replace bw1 := below_of1 bw1
      replace h0 := h0.below bw1
      replace h1 := h1.below bw1
      replace hb := below_trans hb bw1
      have hx := Ints.of_own ox
      clear bw1 ox
      go_wp2_with fail
      refine (equal_at Ax _ [0, 2, 2, 5] [0, 2, 2, 5] _ _ _ _ _ (by exact Ints.alloc hx _) (by exact Ints.lit _ _ _ _ rfl (by decide)) rfl rfl).mono ?_
      rintro e w2 ⟨rfl, nw2, hww2⟩
      have bw2 := below_of_drewN hww2
      clear hww2
      replace bw2 := below_of1 bw2
      replace h0 := h0.below bw2
      replace h1 := h1.below bw2
      replace hb := below_trans hb bw2
      clear bw2
      rw [eqB_true rfl]
      clear hx
      go_wp2_with fail
      refine (sum_yes a0 l0 x _ c0 _ v0 HX.out h0 rfl).mono ?_
      rintro e w3 ⟨Ax, cx, rfl, ox, bw3⟩
      replace h0 := h0.below bw3
      replace h1 := h1.below bw3
      replace hb := below_trans hb bw3
      have hx := Ints.of_own ox
      clear bw3 ox
      go_wp2_with fail
      refine (slots_yes Ax x l0 _ cx _ S0.out S1.out hx rfl).mono ?_
      rintro e w4 ⟨Ay, cy, rfl, oy, bw4⟩
      replace h0 := h0.below bw4
      replace h1 := h1.below bw4
      replace hx := hx.below bw4
      replace hb := below_trans hb bw4
      have hy := Ints.of_own oy
      clear bw4 oy
      go_wp2_with fail
      refine (equal_at Ay a0 l0 l0 _ _ _ _ _ hy h0 rfl rfl).mono ?_
      rintro e w5 ⟨rfl, nw5, hww5⟩
      have bw5 := below_of_drewN hww5
      clear hww5
      replace h1 := h1.below bw5
      replace hx := hx.below bw5
      replace hb := below_trans hb bw5
      clear bw5
      rw [eqB_true rfl]
      go_wp2_with fail
      refine (check_yes Ax x _ cx _ vx hx rfl).mono ?_
      rintro e w' ⟨rfl, rfl⟩
      go_wp2_with fail
      refine (slots_yes a1 l1 z _ c1 _ T0.out T1.out h1 rfl).mono ?_
      rintro e w6 ⟨Az, cz, rfl, oz, bw6⟩
      replace h1 := h1.below bw6
      replace hb := below_trans hb bw6
      have hz := Ints.of_own oz
      clear bw6 oz
      go_wp2_with fail
      refine (sum_yes Az z l1 _ cz _ vz T2.out.symm hz rfl).mono ?_
      rintro e w7 ⟨Au, cu, rfl, ou, bw7⟩
      replace h1 := h1.below bw7
      replace hb := below_trans hb bw7
      have hu := Ints.of_own ou
      clear bw7 ou
      go_wp2_with fail
      refine (equal_at Au a1 l1 l1 _ _ _ _ _ hu h1 rfl rfl).mono ?_
      rintro e w8 ⟨rfl, nw8, hww8⟩
      have bw8 := below_of_drewN hww8
      clear hww8
      replace hb := below_trans hb bw8
      clear bw8
      rw [eqB_true rfl]
      go_wp2
      go_ret
      exact ⟨rfl, hb⟩
    · have e1 : (sloE l1 != 0) = true := by simp [q1]
      have e2 : (((sloL l1).length : Int) == 0) = true := by rw [sloL, if_neg q1]; rfl
      clear q1
      go_enter Try.func6, Try.ntmps6
      go_wp2_with fail
      refine (sum_yes _ [2, 0, 3] [0, 2, 2, 5] _ _ _ tr_lit (by decide) (by exact Ints.lit _ _ _ _ rfl (by decide)) rfl).mono ?_
      rintro e w1 ⟨Ax, cx, rfl, ox, bw1⟩
      replace bw1 := below_of1 bw1
      replace h0 := h0.below bw1
      replace h1 := h1.below bw1
      replace hb := below_trans hb bw1
      have hx := Ints.of_own ox
      clear bw1 ox
      go_wp2_with fail
      refine (equal_at Ax _ [0, 2, 2, 5] [0, 2, 2, 5] _ _ _ _ _ (by exact Ints.alloc hx _) (by exact Ints.lit _ _ _ _ rfl (by decide)) rfl rfl).mono ?_
      rintro e w2 ⟨rfl, nw2, hww2⟩
      have bw2 := below_of_drewN hww2
      clear hww2
      replace bw2 := below_of1 bw2
      replace h0 := h0.below bw2
      replace h1 := h1.below bw2
      replace hb := below_trans hb bw2
      clear bw2
      rw [eqB_true rfl]
      clear hx
      go_wp2_with fail
      refine (sum_yes a0 l0 x _ c0 _ v0 HX.out h0 rfl).mono ?_
      rintro e w3 ⟨Ax, cx, rfl, ox, bw3⟩
      replace h0 := h0.below bw3
      replace h1 := h1.below bw3
      replace hb := below_trans hb bw3
      have hx := Ints.of_own ox
      clear bw3 ox
      go_wp2_with fail
      refine (slots_yes Ax x l0 _ cx _ S0.out S1.out hx rfl).mono ?_
      rintro e w4 ⟨Ay, cy, rfl, oy, bw4⟩
      replace h0 := h0.below bw4
      replace h1 := h1.below bw4
      replace hx := hx.below bw4
      replace hb := below_trans hb bw4
      have hy := Ints.of_own oy
      clear bw4 oy
      go_wp2_with fail
      refine (equal_at Ay a0 l0 l0 _ _ _ _ _ hy h0 rfl rfl).mono ?_
      rintro e w5 ⟨rfl, nw5, hww5⟩
      have bw5 := below_of_drewN hww5
      clear hww5
      replace h1 := h1.below bw5
      replace hx := hx.below bw5
      replace hb := below_trans hb bw5
      clear bw5
      rw [eqB_true rfl]
      go_wp2_with fail
      refine (check_yes Ax x _ cx _ vx hx rfl).mono ?_
      rintro e w' ⟨rfl, rfl⟩
      go_wp2_with fail
      refine (slots_any a1 l1 c1 _ h1).mono ?_
      rintro e w6 ⟨Az, cz, rfl, oz, bw6⟩
      replace h1 := h1.below bw6
      replace hb := below_trans hb bw6
      have hz := Ints.of_own oz
      clear bw6 oz
      go_wp2
      go_ret
      exact ⟨rfl, hb⟩
  · have e1 : (trk l0 != 0) = true := by simp [q0]
    have e2 : (trk l0 == trk l0) = true := by simp
    have e3 : (((trL l0).length : Int) == 0) = true := by rw [trL_no q0]; rfl
    clear q0
    go_enter Try.func6, Try.ntmps6
    go_wp2_with fail
    refine (sum_yes _ [2, 0, 3] [0, 2, 2, 5] _ _ _ tr_lit (by decide) (by exact Ints.lit _ _ _ _ rfl (by decide)) rfl).mono ?_
    rintro e w1 ⟨Ax, cx, rfl, ox, bw1⟩
    replace bw1 := below_of1 bw1
    replace h0 := h0.below bw1
    replace h1 := h1.below bw1
    replace hb := below_trans hb bw1
    have hx := Ints.of_own ox
    clear bw1 ox
    go_wp2_with fail
    refine (equal_at Ax _ [0, 2, 2, 5] [0, 2, 2, 5] _ _ _ _ _ (by exact Ints.alloc hx _) (by exact Ints.lit _ _ _ _ rfl (by decide)) rfl rfl).mono ?_
    rintro e w2 ⟨rfl, nw2, hww2⟩
    have bw2 := below_of_drewN hww2
    clear hww2
    replace bw2 := below_of1 bw2
    replace h0 := h0.below bw2
    replace h1 := h1.below bw2
    replace hb := below_trans hb bw2
    clear bw2
    rw [eqB_true rfl]
    clear hx
    go_wp2_with fail
    refine (trSum_any a0 l0 c0 _ h0).mono ?_
    rintro e w3 ⟨Ax, cx, rfl, ox, bw3⟩
    replace h0 := h0.below bw3
    replace h1 := h1.below bw3
    replace hb := below_trans hb bw3
    have hx := Ints.of_own ox
    clear bw3 ox
    go_wp2_with fail
    refine (trCheck_any a0 l0 c0 _ h0).mono ?_
    rintro e w' ⟨rfl, rfl⟩
    go_wp2
    go_ret
    exact ⟨rfl, hb⟩

end Go.Proofs.Ytaopeofcmnckfaa
