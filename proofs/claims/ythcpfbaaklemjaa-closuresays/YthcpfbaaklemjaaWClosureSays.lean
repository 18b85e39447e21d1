
/-
  The walk of the law ClosureSays.
-/
import Derived.Test.YthcpfbaaklemjaaCloR
import Derived.Test.YthcpfbaaklemjaaCloS
namespace Go.Proofs.Ythcpfbaaklemjaa
set_option linter.all false
open Go.RowKit Go.Shelf

set_option maxHeartbeats 1600000 in
theorem walk_ClosureSays (a0 : Option Addr) (c0 : Nat) (l0 : List Int) (w : World)
    (h0 : Ints w a0 l0) (k0 : l0.length ≤ c0) :
    Calls Try.prog 3 #[.slice a0 l0.length c0] w fun e w' => e = .returned (.bool true) ∧ Below w.heap.size w w' := by
  have hb : Below w.heap.size w w := Below.refl _ _
  obtain ⟨M1, L1⟩ : ∃ L, Hid (L = clL l0) := ⟨_, Lib.hid rfl⟩
  by_cases g : chk l0 = 0
  · have G := Lib.hid g
    have v0 := cv_of g
    have e1 : (chk l0 != 0) = false := by simp [g]
    obtain ⟨s, hs⟩ : ∃ s, s = eqB l0 (clL l0) := ⟨_, rfl⟩
    have HS : Hid (subB l0 = s) := Lib.hid (by rw [hs]; simp [subB, g])
    have HE : Hid (eqB l0 (clL l0) = s) := Lib.hid hs.symm
    clear g hs
    go_enter Try.func3, Try.ntmps3
    go_wp2_with fail
    refine (clos_any a0 l0 c0 _ h0 k0).mono ?_
    rintro e w1 ⟨Ax, cx, rfl, ox, bw1⟩
    replace h0 := h0.below bw1
    replace hb := below_trans hb bw1
    have hx := Ints.of_own ox
    clear bw1 ox
    rw [← L1.out]
    rw [← L1.out] at hx
    go_wp2_with fail
    refine (is_any a0 l0 c0 _ h0 k0).mono ?_
    rintro e w2 ⟨rfl, bw2⟩
    replace h0 := h0.below bw2
    replace hx := hx.below bw2
    replace hb := below_trans hb bw2
    clear bw2
    rw [HS.out]
    go_wp2_with fail
    refine (refCurve_any a0 l0 c0 _ h0).mono ?_
    rintro e w' ⟨rfl, rfl⟩
    go_wp2_with fail
    refine (refClosure_any a0 l0 c0 _ h0 v0).mono ?_
    rintro e w4 ⟨Ap, cp, rfl, op, bw4⟩
    replace h0 := h0.below bw4
    replace hx := hx.below bw4
    replace hb := below_trans hb bw4
    have hp := Ints.of_own op
    clear bw4 op
    rw [← L1.out]
    rw [← L1.out] at hp
    go_wp2_with fail
    refine (told_at Ax Ap M1 M1 _ _ _ _ _ _ _ hx hp (fun _ => rfl) rfl rfl rfl).mono ?_
    rintro e w5 ⟨rfl, nw5, hww5⟩
    have bw5 := below_of_drewN hww5
    clear hww5
    replace h0 := h0.below bw5
    replace hb := below_trans hb bw5
    clear bw5
    rw [G.out]
    go_wp2_with fail
    refine (refSub_any a0 l0 c0 _ h0 v0).mono ?_
    rintro e w6 ⟨rfl, nw6, hww6⟩
    have bw6 := below_of_drewN hww6
    clear hww6
    replace hb := below_trans hb bw6
    clear bw6
    rw [HE.out]
    go_wp2
    go_ret
    exact ⟨rfl, hb⟩
  · have e1 : (chk l0 != 0) = true := by simp [g]
    have G := Lib.hid g
    have HS : Hid (subB l0 = false) := Lib.hid (by simp [subB, g])
    clear g
    go_enter Try.func3, Try.ntmps3
    go_wp2_with fail
    refine (clos_any a0 l0 c0 _ h0 k0).mono ?_
    rintro e w1 ⟨Ax, cx, rfl, ox, bw1⟩
    replace h0 := h0.below bw1
    replace hb := below_trans hb bw1
    have hx := Ints.of_own ox
    clear bw1 ox
    rw [← L1.out]
    rw [← L1.out] at hx
    go_wp2_with fail
    refine (is_any a0 l0 c0 _ h0 k0).mono ?_
    rintro e w2 ⟨rfl, bw2⟩
    replace h0 := h0.below bw2
    replace hx := hx.below bw2
    replace hb := below_trans hb bw2
    clear bw2
    rw [HS.out]
    go_wp2_with fail
    refine (refCurve_any a0 l0 c0 _ h0).mono ?_
    rintro e w' ⟨rfl, rfl⟩
    go_wp2_with fail
    refine (told_at Ax none M1 [] _ _ _ _ _ _ _ hx (Ints.nil_ _ _) (fun e => absurd e G.out) rfl rfl rfl).mono ?_
    rintro e w4 ⟨rfl, nw4, hww4⟩
    have bw4 := below_of_drewN hww4
    clear hww4
    replace hb := below_trans hb bw4
    clear bw4
    go_wp2
    go_ret
    exact ⟨rfl, hb⟩

end Go.Proofs.Ythcpfbaaklemjaa
