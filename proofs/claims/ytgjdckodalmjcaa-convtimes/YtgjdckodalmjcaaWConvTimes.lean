
/-
  The walk of the law ConvTimes.
-/
import Derived.Test.YtgjdckodalmjcaaConvD
namespace Go.Proofs.Ytgjdckodalmjcaa
set_option linter.all false
open Go.RowKit Go.Shelf

set_option maxHeartbeats 1600000 in
theorem walk_ConvTimes (a0 : Option Addr) (c0 : Nat) (l0 : List Int) (n : Int) (w : World)
    (h0 : Ints w a0 l0) (_k0 : l0.length ≤ c0) (_hn : (Lit.int .i64 n).wf = true) :
    Calls Try.prog 4 #[.slice a0 l0.length c0, .int .i64 n] w fun e w' => e = .returned (.bool true) ∧ Below w.heap.size w w' := by
  have hb : Below w.heap.size w w := Below.refl _ _
  obtain ⟨M1, L1⟩ : ∃ L, Hid (L = pw l0 (n.toNat - 1)) := ⟨_, Lib.hid rfl⟩
  by_cases g : chk l0 = 0
  · have e1 : (chk l0 == 0) = true := by simp [g]
    by_cases g2 : n < 1
    · have T : Hid (timE l0 n = 1) := Lib.hid (by simp [timE, g, g2])
      have NZ : Hid ((1 : Int) ≠ 0) := Lib.hid (by decide)
      have e2 : decide (n < 1) = true := decide_eq_true g2
      clear g
      go_enter Try.func4, Try.ntmps4
      go_wp2_with fail
      refine (times_any a0 l0 c0 n _ h0).mono ?_
      rintro e w1 ⟨Ax, cx, rfl, ox, bw1⟩
      replace h0 := h0.below bw1
      replace hb := below_trans hb bw1
      have hx := Ints.of_own ox
      clear bw1 ox
      rw [← L1.out, T.out]
      rw [← L1.out, T.out] at hx
      go_wp2_with fail
      refine (refCurve_any a0 l0 c0 _ h0).mono ?_
      rintro e w' ⟨rfl, rfl⟩
      go_wp2_with fail
      refine (told_at Ax none M1 [] _ _ _ _ _ _ _ hx (Ints.nil_ _ _) (fun e => absurd e NZ.out) rfl rfl rfl).mono ?_
      rintro e w4 ⟨rfl, nw4, hww4⟩
      have bw4 := below_of_drewN hww4
      clear hww4
      replace hb := below_trans hb bw4
      clear bw4
      go_wp2
      go_ret
      exact ⟨rfl, hb⟩
    by_cases g3 : 60 < n
    · have T : Hid (timE l0 n = 1) := Lib.hid (by simp [timE, g, g3])
      have NZ : Hid ((1 : Int) ≠ 0) := Lib.hid (by decide)
      have e2 : decide (n < 1) = false := decide_eq_false g2
      have e3 : decide (60 < n) = true := decide_eq_true g3
      clear g
      go_enter Try.func4, Try.ntmps4
      go_wp2_with fail
      refine (times_any a0 l0 c0 n _ h0).mono ?_
      rintro e w1 ⟨Ax, cx, rfl, ox, bw1⟩
      replace h0 := h0.below bw1
      replace hb := below_trans hb bw1
      have hx := Ints.of_own ox
      clear bw1 ox
      rw [← L1.out, T.out]
      rw [← L1.out, T.out] at hx
      go_wp2_with fail
      refine (refCurve_any a0 l0 c0 _ h0).mono ?_
      rintro e w' ⟨rfl, rfl⟩
      go_wp2_with fail
      refine (told_at Ax none M1 [] _ _ _ _ _ _ _ hx (Ints.nil_ _ _) (fun e => absurd e NZ.out) rfl rfl rfl).mono ?_
      rintro e w4 ⟨rfl, nw4, hww4⟩
      have bw4 := below_of_drewN hww4
      clear hww4
      replace hb := below_trans hb bw4
      clear bw4
      go_wp2
      go_ret
      exact ⟨rfl, hb⟩
    have T : Hid (timE l0 n = 0) := Lib.hid (by simp [timE, g]; omega)
    have G := Lib.hid g
    have e2 : decide (n < 1) = false := decide_eq_false g2
    have e3 : decide (60 < n) = false := decide_eq_false g3
    have e4 : (chk l0 != 0) = false := by simp [g]
    have v := cv_of g
    obtain ⟨j, hj⟩ : ∃ j : Nat, n = (j : Int) := ⟨n.toNat, by omega⟩
    subst hj
    have hl : M1 = pw l0 (j - 1) := by rw [L1.out, Int.toNat_natCast]
    have L2 := Lib.hid hl
    clear g hl
    go_enter Try.func4, Try.ntmps4
    go_wp2_with fail
    refine (times_any a0 l0 c0 j _ h0).mono ?_
    rintro e w1 ⟨Ax, cx, rfl, ox, bw1⟩
    replace h0 := h0.below bw1
    replace hb := below_trans hb bw1
    have hx := Ints.of_own ox
    clear bw1 ox
    rw [← L1.out, T.out]
    rw [← L1.out, T.out] at hx
    go_wp2_with fail
    refine (refCurve_any a0 l0 c0 _ h0).mono ?_
    rintro e w' ⟨rfl, rfl⟩
    go_wp2_with fail
    refine (refTimes_any l0 v j (by omega) (by omega) a0 c0 _ h0).mono ?_
    rintro e w4 ⟨Ap, cp, rfl, op, bw4⟩
    replace hx := hx.below bw4
    replace hb := below_trans hb bw4
    have hp := Ints.of_own op
    clear bw4 op
    rw [← L2.out]
    rw [← L2.out] at hp
    rw [G.out]
    go_wp2_with fail
    refine (told_at Ax Ap M1 M1 _ _ _ _ _ _ _ hx hp (fun _ => rfl) rfl rfl rfl).mono ?_
    rintro e w5 ⟨rfl, nw5, hww5⟩
    have bw5 := below_of_drewN hww5
    clear hww5
    replace hb := below_trans hb bw5
    clear bw5
    go_wp2
    go_ret
    exact ⟨rfl, hb⟩
  · have e1 : (chk l0 == 0) = false := by simp [g]
    have e4 : (chk l0 != 0) = true := by simp [g]
    have T : Hid (timE l0 n = chk l0) := Lib.hid (by simp [timE, g])
    have NZ := Lib.hid g
    clear g
    go_enter Try.func4, Try.ntmps4
    go_wp2_with fail
    refine (times_any a0 l0 c0 n _ h0).mono ?_
    rintro e w1 ⟨Ax, cx, rfl, ox, bw1⟩
    replace h0 := h0.below bw1
    replace hb := below_trans hb bw1
    have hx := Ints.of_own ox
    clear bw1 ox
    rw [← L1.out, T.out]
    rw [← L1.out, T.out] at hx
    go_wp2_with fail
    refine (refCurve_any a0 l0 c0 _ h0).mono ?_
    rintro e w' ⟨rfl, rfl⟩
    go_wp2_with fail
    refine (told_at Ax none M1 [] _ _ _ _ _ _ _ hx (Ints.nil_ _ _) (fun e => absurd e NZ.out) rfl rfl rfl).mono ?_
    rintro e w4 ⟨rfl, nw4, hww4⟩
    have bw4 := below_of_drewN hww4
    clear hww4
    replace hb := below_trans hb bw4
    clear bw4
    go_wp2
    go_ret
    exact ⟨rfl, hb⟩

end Go.Proofs.Ytgjdckodalmjcaa
