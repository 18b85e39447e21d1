
/-
  The walk of the law ShaperSays.
-/
import Derived.Test.YtbefkjglhlembaaShaperA
import Derived.Test.YtbefkjglhlembaaCloR
namespace Go.Proofs.Ytbefkjglhlembaa
set_option linter.all false
open Go.RowKit Go.Shelf

set_option maxHeartbeats 1600000 in
theorem walk_ShaperSays (a0 : Option Addr) (c0 : Nat) (l0 : List Int) (a1 : Option Addr) (c1 : Nat) (l1 : List Int) (w : World)
    (h0 : Ints w a0 l0) (k0 : l0.length ≤ c0) (h1 : Ints w a1 l1) (k1 : l1.length ≤ c1) :
    Calls Try.prog 3 #[.slice a0 l0.length c0, .slice a1 l1.length c1] w fun e w' => e = .returned (.bool true) ∧ Below w.heap.size w w' := by
  have hb : Below w.heap.size w w := Below.refl _ _
  obtain ⟨K1, LK⟩ : ∃ L, Hid (L = clL l1) := ⟨_, Lib.hid rfl⟩
  obtain ⟨M1, L1⟩ : ∃ L, Hid (L = cvL l0 K1) := ⟨_, Lib.hid rfl⟩
  by_cases g : chk2 l0 l1 = 0
  · have G := Lib.hid g
    obtain ⟨v0, v1, v2⟩ := chk2_iff.1 g
    have e1 : (chk2 l0 l1 != 0) = false := by simp [g]
    have vk : Cv K1 := by rw [LK.out]; exact v1.clos
    have HV : Hid (l0.length = K1.length) := Lib.hid (by rw [LK.out, length_clL, v2])
    clear g v2
    go_enter Try.func3, Try.ntmps3
    go_wp2_with fail
    refine (shaper_any a0 a1 l0 l1 c0 c1 _ h0 h1 k1).mono ?_
    rintro e w1 ⟨Ax, cx, rfl, ox, bw1⟩
    replace h0 := h0.below bw1
    replace h1 := h1.below bw1
    replace hb := below_trans hb bw1
    have hx := Ints.of_own ox
    clear bw1 ox
    rw [← LK.out, ← L1.out]
    rw [← LK.out, ← L1.out] at hx
    go_wp2_with fail
    refine (refCurves_any a0 a1 l0 l1 c0 c1 _ h0 h1).mono ?_
    rintro e w' ⟨rfl, rfl⟩
    go_wp2_with fail
    refine (refClosure_any a1 l1 c1 _ h1 v1).mono ?_
    rintro e w4 ⟨Ap, cp, rfl, op, bw4⟩
    replace h0 := h0.below bw4
    replace hx := hx.below bw4
    replace hb := below_trans hb bw4
    have hp := Ints.of_own op
    clear bw4 op
    rw [← LK.out]
    rw [← LK.out] at hp
    go_wp2_with fail
    refine (refConv_any a0 Ap l0 K1 c0 cp _ h0 hp v0.pos v0.le HV.out (v0.nd.bd (by decide)) (vk.nd.bd (by decide))).mono ?_
    rintro e w5 ⟨Aq, cq, rfl, oq, bw5⟩
    replace hx := hx.below bw5
    replace hb := below_trans hb bw5
    have hq := Ints.of_own oq
    clear bw5 oq
    rw [← L1.out]
    rw [← L1.out] at hq
    go_wp2_with fail
    refine (told_at Ax Aq M1 M1 _ _ _ _ _ _ _ hx hq (fun _ => rfl) rfl rfl rfl).mono ?_
    rintro e w6 ⟨rfl, nw6, hww6⟩
    have bw6 := below_of_drewN hww6
    clear hww6
    replace hb := below_trans hb bw6
    clear bw6
    go_wp2
    go_ret
    exact ⟨rfl, hb⟩
  · have e1 : (chk2 l0 l1 != 0) = true := by simp [g]
    have G := Lib.hid g
    clear g
    go_enter Try.func3, Try.ntmps3
    go_wp2_with fail
    refine (shaper_any a0 a1 l0 l1 c0 c1 _ h0 h1 k1).mono ?_
    rintro e w1 ⟨Ax, cx, rfl, ox, bw1⟩
    replace h0 := h0.below bw1
    replace h1 := h1.below bw1
    replace hb := below_trans hb bw1
    have hx := Ints.of_own ox
    clear bw1 ox
    rw [← LK.out, ← L1.out]
    rw [← LK.out, ← L1.out] at hx
    go_wp2_with fail
    refine (refCurves_any a0 a1 l0 l1 c0 c1 _ h0 h1).mono ?_
    rintro e w' ⟨rfl, rfl⟩
    go_wp2_with fail
    refine (told_at Ax none M1 [] _ _ _ _ _ _ _ hx (Ints.nil_ _ _) (fun e => absurd e G.out) rfl rfl rfl).mono ?_
    rintro e w4 ⟨rfl, nw4, hww4⟩
    have bw4 := below_of_drewN hww4
    clear hww4
    replace hb := below_trans hb bw4
    clear bw4
    go_wp2
    go_ret
    exact ⟨rfl, hb⟩

end Go.Proofs.Ytbefkjglhlembaa
