
/-
  The walk of the law DualSays.
-/
import Derived.Test.YthcpfbaaklemjaaCloR
import Derived.Test.YthcpfbaaklemjaaCloS
namespace Go.Proofs.Ythcpfbaaklemjaa
set_option linter.all false
open Go.RowKit Go.Shelf

set_option maxHeartbeats 1600000 in
theorem walk_DualSays (a0 : Option Addr) (c0 : Nat) (l0 : List Int) (a1 : Option Addr) (c1 : Nat) (l1 : List Int) (w : World)
    (h0 : Ints w a0 l0) (k0 : l0.length ≤ c0) (h1 : Ints w a1 l1) (_k1 : l1.length ≤ c1) :
    Calls Try.prog 4 #[.slice a0 l0.length c0, .slice a1 l1.length c1] w fun e w' => e = .returned (.bool true) ∧ Below w.heap.size w w' := by
  have hb : Below w.heap.size w w := Below.refl _ _
  obtain ⟨M1, L1⟩ : ∃ L, Hid (L = duL l0 l1) := ⟨_, Lib.hid rfl⟩
  obtain ⟨M2, L2⟩ : ∃ L, Hid (L = suL l0) := ⟨_, Lib.hid rfl⟩
  by_cases g : chk2 l0 l1 = 0
  · obtain ⟨v0, v1, v2⟩ := chk2_iff.1 g
    have e1 : (chk2 l0 l1 == 0) = true := by simp [g]
    have e2 : (chk l0 == 0) = true := by simp [chk_iff.2 v0]
    have HV := Lib.hid v2
    clear g v2
    go_enter Try.func4, Try.ntmps4
    go_wp2_with fail
    refine (dual_any a0 a1 l0 l1 c0 c1 _ h0 h1).mono ?_
    rintro e w1 ⟨Ax, cx, rfl, ox, bw1⟩
    replace h0 := h0.below bw1
    replace h1 := h1.below bw1
    replace hb := below_trans hb bw1
    have hx := Ints.of_own ox
    clear bw1 ox
    rw [← L1.out]
    rw [← L1.out] at hx
    go_wp2_with fail
    refine (super_any a0 l0 c0 _ h0 k0).mono ?_
    rintro e w2 ⟨Ay, cy, rfl, oy, bw2⟩
    replace h0 := h0.below bw2
    replace h1 := h1.below bw2
    replace hx := hx.below bw2
    replace hb := below_trans hb bw2
    have hy := Ints.of_own oy
    clear bw2 oy
    rw [← L2.out]
    rw [← L2.out] at hy
    go_wp2_with fail
    refine (refCurves_any a0 a1 l0 l1 c0 c1 _ h0 h1).mono ?_
    rintro e w' ⟨rfl, rfl⟩
    go_wp2_with fail
    refine (refCurve_any a0 l0 c0 _ h0).mono ?_
    rintro e w' ⟨rfl, rfl⟩
    go_wp2_with fail
    refine (refDual_any a0 a1 l0 l1 c0 c1 _ h0 h1 v0.pos v0.le HV.out (v0.nd.bd (by decide)) (v1.nd.bd (by decide))).mono ?_
    rintro e w3 ⟨Ap, cp, rfl, op, bw3⟩
    replace h0 := h0.below bw3
    replace hx := hx.below bw3
    replace hy := hy.below bw3
    replace hb := below_trans hb bw3
    have hp := Ints.of_own op
    clear bw3 op
    rw [← L1.out]
    rw [← L1.out] at hp
    go_wp2_with fail
    refine (refSuper_any a0 l0 c0 _ h0 v0).mono ?_
    rintro e w4 ⟨Aq, cq, rfl, oq, bw4⟩
    replace hx := hx.below bw4
    replace hy := hy.below bw4
    replace hp := hp.below bw4
    replace hb := below_trans hb bw4
    have hq := Ints.of_own oq
    clear bw4 oq
    rw [← L2.out]
    rw [← L2.out] at hq
    go_wp2_with fail
    refine (told_at Ax Ap M1 M1 _ _ _ _ _ _ _ hx hp (fun _ => rfl) rfl rfl rfl).mono ?_
    rintro e w5 ⟨rfl, nw5, hww5⟩
    have bw5 := below_of_drewN hww5
    clear hww5
    replace hy := hy.below bw5
    replace hq := hq.below bw5
    replace hb := below_trans hb bw5
    clear bw5
    go_wp2_with fail
    refine (told_at Ay Aq M2 M2 _ _ _ _ _ _ _ hy hq (fun _ => rfl) rfl rfl rfl).mono ?_
    rintro e w6 ⟨rfl, nw6, hww6⟩
    have bw6 := below_of_drewN hww6
    clear hww6
    replace hb := below_trans hb bw6
    clear bw6
    go_wp2
    go_ret
    exact ⟨rfl, hb⟩
  · have e1 : (chk2 l0 l1 == 0) = false := by simp [g]
    have G := Lib.hid g
    clear g
    by_cases g2 : chk l0 = 0
    · have e2 : (chk l0 == 0) = true := by simp [g2]
      have v0 := cv_of g2
      clear g2
      go_enter Try.func4, Try.ntmps4
      go_wp2_with fail
      refine (dual_any a0 a1 l0 l1 c0 c1 _ h0 h1).mono ?_
      rintro e w1 ⟨Ax, cx, rfl, ox, bw1⟩
      replace h0 := h0.below bw1
      replace h1 := h1.below bw1
      replace hb := below_trans hb bw1
      have hx := Ints.of_own ox
      clear bw1 ox
      rw [← L1.out]
      rw [← L1.out] at hx
      go_wp2_with fail
      refine (super_any a0 l0 c0 _ h0 k0).mono ?_
      rintro e w2 ⟨Ay, cy, rfl, oy, bw2⟩
      replace h0 := h0.below bw2
      replace h1 := h1.below bw2
      replace hx := hx.below bw2
      replace hb := below_trans hb bw2
      have hy := Ints.of_own oy
      clear bw2 oy
      rw [← L2.out]
      rw [← L2.out] at hy
      go_wp2_with fail
      refine (refCurves_any a0 a1 l0 l1 c0 c1 _ h0 h1).mono ?_
      rintro e w' ⟨rfl, rfl⟩
      go_wp2_with fail
      refine (refCurve_any a0 l0 c0 _ h0).mono ?_
      rintro e w' ⟨rfl, rfl⟩
      go_wp2_with fail
      refine (refSuper_any a0 l0 c0 _ h0 v0).mono ?_
      rintro e w4 ⟨Aq, cq, rfl, oq, bw4⟩
      replace hx := hx.below bw4
      replace hy := hy.below bw4
      replace hb := below_trans hb bw4
      have hq := Ints.of_own oq
      clear bw4 oq
      rw [← L2.out]
      rw [← L2.out] at hq
      go_wp2_with fail
      refine (told_at Ax none M1 [] _ _ _ _ _ _ _ hx (Ints.nil_ _ _) (fun e => absurd e G.out) rfl rfl rfl).mono ?_
      rintro e w5 ⟨rfl, nw5, hww5⟩
      have bw5 := below_of_drewN hww5
      clear hww5
      replace hy := hy.below bw5
      replace hq := hq.below bw5
      replace hb := below_trans hb bw5
      clear bw5
      go_wp2_with fail
      refine (told_at Ay Aq M2 M2 _ _ _ _ _ _ _ hy hq (fun _ => rfl) rfl rfl rfl).mono ?_
      rintro e w6 ⟨rfl, nw6, hww6⟩
      have bw6 := below_of_drewN hww6
      clear hww6
      replace hb := below_trans hb bw6
      clear bw6
      go_wp2
      go_ret
      exact ⟨rfl, hb⟩
    · have e2 : (chk l0 == 0) = false := by simp [g2]
      have G2 := Lib.hid g2
      clear g2
      go_enter Try.func4, Try.ntmps4
      go_wp2_with fail
      refine (dual_any a0 a1 l0 l1 c0 c1 _ h0 h1).mono ?_
      rintro e w1 ⟨Ax, cx, rfl, ox, bw1⟩
      replace h0 := h0.below bw1
      replace h1 := h1.below bw1
      replace hb := below_trans hb bw1
      have hx := Ints.of_own ox
      clear bw1 ox
      rw [← L1.out]
      rw [← L1.out] at hx
      go_wp2_with fail
      refine (super_any a0 l0 c0 _ h0 k0).mono ?_
      rintro e w2 ⟨Ay, cy, rfl, oy, bw2⟩
      replace h0 := h0.below bw2
      replace h1 := h1.below bw2
      replace hx := hx.below bw2
      replace hb := below_trans hb bw2
      have hy := Ints.of_own oy
      clear bw2 oy
      rw [← L2.out]
      rw [← L2.out] at hy
      go_wp2_with fail
      refine (refCurves_any a0 a1 l0 l1 c0 c1 _ h0 h1).mono ?_
      rintro e w' ⟨rfl, rfl⟩
      go_wp2_with fail
      refine (refCurve_any a0 l0 c0 _ h0).mono ?_
      rintro e w' ⟨rfl, rfl⟩
      go_wp2_with fail
      refine (told_at Ax none M1 [] _ _ _ _ _ _ _ hx (Ints.nil_ _ _) (fun e => absurd e G.out) rfl rfl rfl).mono ?_
      rintro e w5 ⟨rfl, nw5, hww5⟩
      have bw5 := below_of_drewN hww5
      clear hww5
      replace hy := hy.below bw5
      replace hb := below_trans hb bw5
      clear bw5
      go_wp2_with fail
      refine (told_at Ay none M2 [] _ _ _ _ _ _ _ hy (Ints.nil_ _ _) (fun e => absurd e G2.out) rfl rfl rfl).mono ?_
      rintro e w6 ⟨rfl, nw6, hww6⟩
      have bw6 := below_of_drewN hww6
      clear hww6
      replace hb := below_trans hb bw6
      clear bw6
      go_wp2
      go_ret
      exact ⟨rfl, hb⟩

end Go.Proofs.Ythcpfbaaklemjaa
