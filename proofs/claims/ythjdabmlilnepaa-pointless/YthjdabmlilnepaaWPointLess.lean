
/-
  The walk of the law PointLess.
-/
import Derived.Test.YthjdabmlilnepaaRefB
namespace Go.Proofs.Ythjdabmlilnepaa
set_option linter.all false
open Go.RowKit Go.Shelf

set_option maxHeartbeats 1600000 in
theorem walk_PointLess (a0 : Option Addr) (c0 : Nat) (l0 : List Int) (a1 : Option Addr) (c1 : Nat) (l1 : List Int) (w : World)
    (h0 : Ints w a0 l0) (_k0 : l0.length ≤ c0) (h1 : Ints w a1 l1) (_k1 : l1.length ≤ c1) :
    Calls Try.prog 4 #[.slice a0 l0.length c0, .slice a1 l1.length c1] w fun e w' => e = .returned (.bool true) ∧ Below w.heap.size w w' := by
  have hb : Below w.heap.size w w := Below.refl _ _
  obtain ⟨M1, L1⟩ : ∃ L, Hid (L = tab l0.length (lessV l0 l1)) := ⟨_, Lib.hid rfl⟩
  by_cases g : chk2 l0 l1 = 0
  · have G := Lib.hid g
    obtain ⟨v0, v1, v2⟩ := chk2_iff.1 g
    have e1 : (chk2 l0 l1 != 0) = false := by simp [g]
    have hlm := Nat.le_of_eq v2
    clear g v2
    go_enter Try.func4, Try.ntmps4
    go_wp2_with fail
    refine (less_any a0 a1 l0 l1 c0 c1 _ h0 h1).mono ?_
    rintro e w1 ⟨Ax, cx, rfl, ox, bw1⟩
    replace h0 := h0.below bw1
    replace h1 := h1.below bw1
    replace hb := below_trans hb bw1
    have hx := Ints.of_own ox
    clear bw1 ox
    rw [← L1.out]
    rw [← L1.out] at hx
    go_wp2_with fail
    refine (refCurves_any a0 a1 l0 l1 c0 c1 _ h0 h1).mono ?_
    rintro e w' ⟨rfl, rfl⟩
    go_wp2_with fail
    refine (refLess_any a0 a1 l0 l1 c0 c1 _ h0 h1 v0 v1 hlm).mono ?_
    rintro e w4 ⟨Ap, cp, rfl, op, bw4⟩
    replace hx := hx.below bw4
    replace hb := below_trans hb bw4
    have hp := Ints.of_own op
    clear bw4 op
    rw [← L1.out]
    rw [← L1.out] at hp
    go_wp2_with fail
    refine (told_at Ax Ap M1 M1 _ _ _ _ _ _ _ hx hp (fun _ => rfl) rfl rfl rfl).mono ?_
    rintro e w5 ⟨rfl, nw5, hww5⟩
    have bw5 := below_of_drewN hww5
    clear hww5
    replace hb := below_trans hb bw5
    clear bw5
    go_wp2
    go_ret
    exact ⟨rfl, hb⟩
  · have e1 : (chk2 l0 l1 != 0) = true := by simp [g]
    have G := Lib.hid g
    clear g
    go_enter Try.func4, Try.ntmps4
    go_wp2_with fail
    refine (less_any a0 a1 l0 l1 c0 c1 _ h0 h1).mono ?_
    rintro e w1 ⟨Ax, cx, rfl, ox, bw1⟩
    replace h0 := h0.below bw1
    replace h1 := h1.below bw1
    replace hb := below_trans hb bw1
    have hx := Ints.of_own ox
    clear bw1 ox
    rw [← L1.out]
    rw [← L1.out] at hx
    go_wp2_with fail
    refine (refCurves_any a0 a1 l0 l1 c0 c1 _ h0 h1).mono ?_
    rintro e w' ⟨rfl, rfl⟩
    go_wp2_with fail
    refine (told_at Ax none M1 [] _ _ _ _ _ _ _ hx (Ints.nil_ _ _) (fun e => absurd e G.out) rfl rfl rfl).mono ?_
    rintro e w4 ⟨rfl, nw4, hww4⟩
    have bw4 := below_of_drewN hww4
    clear hww4
    replace hb := below_trans hb bw4
    clear bw4
    go_wp2
    go_ret
    exact ⟨rfl, hb⟩

end Go.Proofs.Ythjdabmlilnepaa
