
/-
  The walk of the law TraceTells.
-/
import Derived.Test.YtaopeofcmnckfaaBoundA
namespace Go.Proofs.Ytaopeofcmnckfaa
set_option linter.all false
open Go.RowKit Go.Shelf


set_option maxHeartbeats 3200000 in
theorem walk_TraceTells (a0 : Option Addr) (c0 : Nat) (l0 : List Int) (a1 : Option Addr) (c1 : Nat) (l1 : List Int) (w : World)
    (h0 : Ints w a0 l0) (k0 : l0.length ≤ c0) (h1 : Ints w a1 l1) (k1 : l1.length ≤ c1) :
    Calls Try.prog 4 #[.slice a0 l0.length c0, .slice a1 l1.length c1] w fun e w' => e = .returned (.bool true) ∧ Below w.heap.size w w' := by
  have hb : Below w.heap.size w w := Below.refl _ _
  by_cases q1 : chk l0 = 0
  · have v0 := cv_of q1
    have t1 : (chk l0 != 0) = false := by simp [q1]
    have Q1 := Lib.hid q1
    have b0 := v0.nd.bd (by decide)
    have g61 := v0.le
    by_cases q2 : chk2 l0 l1 = 0
    · obtain ⟨_, v1, e01⟩ := chk2_iff.1 q2
      have t2 : (chk2 l0 l1 != 0) = false := by simp [q2]
      have t3 : (chk2 l0 l1 == 0) = true := by simp [q2]
      obtain ⟨s, hs⟩ : ∃ s, s = fitB l0 l1 := ⟨_, rfl⟩
      have HB : Hid ((decide (chk2 l0 l1 = 0) && fitB l0 l1) = s) := Lib.hid (by rw [hs, q2]; simp)
      have HS := Lib.hid hs
      have E := Lib.hid e01
      have t4 : (s == s) = true := by simp
      clear q1 q2 e01 hs
      go_enter Try.func4, Try.ntmps4
      go_wp2_with fail
      refine (env_any a0 l0 c0 _ h0 k0).mono ?_
      rintro e w1 ⟨Ax, cx, rfl, ox, bw1⟩
      replace h0 := h0.below bw1
      replace h1 := h1.below bw1
      replace hb := below_trans hb bw1
      have hx := Ints.of_own ox
      clear bw1 ox
      go_wp2_with fail
      refine (fits_any a0 a1 l0 l1 c0 c1 _ h0 h1 k0).mono ?_
      rintro e w2 ⟨rfl, bw2⟩
      replace h0 := h0.below bw2
      replace h1 := h1.below bw2
      replace hx := hx.below bw2
      replace hb := below_trans hb bw2
      clear bw2
      rw [HB.out]
      go_wp2_with fail
      refine (refCurve_any a0 l0 c0 _ h0).mono ?_
      rintro e w' ⟨rfl, rfl⟩
      go_wp2_with fail
      refine (refCurves_any a0 a1 l0 l1 c0 c1 _ h0 h1).mono ?_
      rintro e w' ⟨rfl, rfl⟩
      go_wp2_with fail
      refine (refDeconv_any a0 a0 l0 l0 c0 c0 _ h0 h0 g61 rfl b0 b0).mono ?_
      rintro e w3 ⟨Ay, cy, rfl, oy, bw3⟩
      replace h0 := h0.below bw3
      replace h1 := h1.below bw3
      replace hx := hx.below bw3
      replace hb := below_trans hb bw3
      have hy := Ints.of_own oy
      clear bw3 oy
      go_wp2_with fail
      refine (told_at Ax Ay (dcL l0 l0) (dcL l0 l0) _ _ cx cy (chk l0) _ _ hx hy (fun _ => rfl) rfl rfl rfl).mono ?_
      rintro e w4 ⟨rfl, nw4, hww4⟩
      have bw4 := below_of_drewN hww4
      clear hww4
      replace h0 := h0.below bw4
      replace h1 := h1.below bw4
      replace hb := below_trans hb bw4
      clear bw4
      go_wp2_with fail
      refine (smooth_any a0 a1 l0 l1 c0 c1 _ h0 h1 v0 v1 E.out).mono ?_
      rintro e w5 ⟨rfl, nw5, hww5⟩
      have bw5 := below_of_drewN hww5
      clear hww5
      replace hb := below_trans hb bw5
      clear bw5
      rw [← HS.out]
      go_wp2
      go_ret
      exact ⟨rfl, hb⟩
    · have t2 : (chk2 l0 l1 != 0) = true := by simp [q2]
      have t3 : (chk2 l0 l1 == chk2 l0 l1) = true := by simp
      have HB : Hid ((decide (chk2 l0 l1 = 0) && fitB l0 l1) = false) := Lib.hid (by simp [q2])
      clear q1 q2
      go_enter Try.func4, Try.ntmps4
      go_wp2_with fail
      refine (env_any a0 l0 c0 _ h0 k0).mono ?_
      rintro e w1 ⟨Ax, cx, rfl, ox, bw1⟩
      replace h0 := h0.below bw1
      replace h1 := h1.below bw1
      replace hb := below_trans hb bw1
      have hx := Ints.of_own ox
      clear bw1 ox
      go_wp2_with fail
      refine (fits_any a0 a1 l0 l1 c0 c1 _ h0 h1 k0).mono ?_
      rintro e w2 ⟨rfl, bw2⟩
      replace h0 := h0.below bw2
      replace h1 := h1.below bw2
      replace hx := hx.below bw2
      replace hb := below_trans hb bw2
      clear bw2
      rw [HB.out]
      go_wp2_with fail
      refine (refCurve_any a0 l0 c0 _ h0).mono ?_
      rintro e w' ⟨rfl, rfl⟩
      go_wp2_with fail
      refine (refCurves_any a0 a1 l0 l1 c0 c1 _ h0 h1).mono ?_
      rintro e w' ⟨rfl, rfl⟩
      go_wp2_with fail
      refine (refDeconv_any a0 a0 l0 l0 c0 c0 _ h0 h0 g61 rfl b0 b0).mono ?_
      rintro e w3 ⟨Ay, cy, rfl, oy, bw3⟩
      replace h0 := h0.below bw3
      replace h1 := h1.below bw3
      replace hx := hx.below bw3
      replace hb := below_trans hb bw3
      have hy := Ints.of_own oy
      clear bw3 oy
      go_wp2_with fail
      refine (told_at Ax Ay (dcL l0 l0) (dcL l0 l0) _ _ cx cy (chk l0) _ _ hx hy (fun _ => rfl) rfl rfl rfl).mono ?_
      rintro e w4 ⟨rfl, nw4, hww4⟩
      have bw4 := below_of_drewN hww4
      clear hww4
      replace h0 := h0.below bw4
      replace h1 := h1.below bw4
      replace hb := below_trans hb bw4
      clear bw4
      go_wp2
      go_ret
      exact ⟨rfl, hb⟩
  · have t1 : (chk l0 != 0) = true := by simp [q1]
    have HB : Hid ((decide (chk2 l0 l1 = 0) && fitB l0 l1) = false) := Lib.hid (by simp [chk2, q1])
    have t3 : (chk2 l0 l1 == chk2 l0 l1) = true := by simp
    have Q1 := Lib.hid q1
    clear q1
    go_enter Try.func4, Try.ntmps4
    go_wp2_with fail
    refine (env_any a0 l0 c0 _ h0 k0).mono ?_
    rintro e w1 ⟨Ax, cx, rfl, ox, bw1⟩
    replace h0 := h0.below bw1
    replace h1 := h1.below bw1
    replace hb := below_trans hb bw1
    have hx := Ints.of_own ox
    clear bw1 ox
    go_wp2_with fail
    refine (fits_any a0 a1 l0 l1 c0 c1 _ h0 h1 k0).mono ?_
    rintro e w2 ⟨rfl, bw2⟩
    replace h0 := h0.below bw2
    replace h1 := h1.below bw2
    replace hx := hx.below bw2
    replace hb := below_trans hb bw2
    clear bw2
    rw [HB.out]
    go_wp2_with fail
    refine (refCurve_any a0 l0 c0 _ h0).mono ?_
    rintro e w' ⟨rfl, rfl⟩
    go_wp2_with fail
    refine (refCurves_any a0 a1 l0 l1 c0 c1 _ h0 h1).mono ?_
    rintro e w' ⟨rfl, rfl⟩
    go_wp2_with fail
    refine (told_at Ax none (dcL l0 l0) [] _ _ cx 0 (chk l0) _ _ hx (Ints.nil_ _ _) (fun q => absurd q Q1.out) rfl rfl rfl).mono ?_
    rintro e w4 ⟨rfl, nw4, hww4⟩
    have bw4 := below_of_drewN hww4
    clear hww4
    replace h0 := h0.below bw4
    replace h1 := h1.below bw4
    replace hb := below_trans hb bw4
    clear bw4
    go_wp2
    go_ret
    exact ⟨rfl, hb⟩

end Go.Proofs.Ytaopeofcmnckfaa
