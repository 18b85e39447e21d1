
/-
  The walk of the law PointSays.
-/
import Derived.Test.YthjdabmlilnepaaPointC
import Derived.Test.YthjdabmlilnepaaRefA
namespace Go.Proofs.Ythjdabmlilnepaa
set_option linter.all false
open Go.RowKit Go.Shelf

theorem rmin_any (a b : Int) (w : World) : Calls Try.prog 21 #[.int .i64 a, .int .i64 b] w fun e w' => e = .returned (.int .i64 (min a b)) ∧ w = w' := by
  go_enter Try.func21, Try.ntmps21
  go_wp2
  all_goals (go_ret; exact ⟨ret_int (by omega), rfl⟩)
theorem rmax_any (a b : Int) (w : World) : Calls Try.prog 22 #[.int .i64 a, .int .i64 b] w fun e w' => e = .returned (.int .i64 (max a b)) ∧ w = w' := by
  go_enter Try.func22, Try.ntmps22
  go_wp2
  all_goals (go_ret; exact ⟨ret_int (by omega), rfl⟩)
theorem rsum_any (a b : Int) (w : World) (h1 : 0 ≤ a) (h2 : a ≤ 1000000) (h3 : 0 ≤ b) (h4 : b ≤ 1000000) :
    Calls Try.prog 23 #[.int .i64 a, .int .i64 b] w fun e w' => e = .returned (.int .i64 (a + b)) ∧ w = w' := by
  go_enter Try.func23, Try.ntmps23
  go_wp2
  go_ret
  exact ⟨rfl, rfl⟩

set_option maxHeartbeats 1600000 in
theorem walk_PointSays (a0 : Option Addr) (c0 : Nat) (l0 : List Int) (a1 : Option Addr) (c1 : Nat) (l1 : List Int) (w : World)
    (h0 : Ints w a0 l0) (_k0 : l0.length ≤ c0) (h1 : Ints w a1 l1) (_k1 : l1.length ≤ c1) :
    Calls Try.prog 3 #[.slice a0 l0.length c0, .slice a1 l1.length c1] w fun e w' => e = .returned (.bool true) ∧ Below w.heap.size w w' := by
  have hb : Below w.heap.size w w := Below.refl _ _
  obtain ⟨M1, L1⟩ : ∃ L, Hid (L = tab l0.length fun t => min (gt l0 t) (gt l1 t)) := ⟨_, Lib.hid rfl⟩
  obtain ⟨M2, L2⟩ : ∃ L, Hid (L = tab l0.length fun t => max (gt l0 t) (gt l1 t)) := ⟨_, Lib.hid rfl⟩
  obtain ⟨M3, L3⟩ : ∃ L, Hid (L = tab l0.length fun t => gt l0 t + gt l1 t) := ⟨_, Lib.hid rfl⟩
  by_cases g : chk2 l0 l1 = 0
  · have G := Lib.hid g
    obtain ⟨v0, v1, v2⟩ := chk2_iff.1 g
    have e1 : (chk2 l0 l1 != 0) = false := by simp [g]
    have V2 := Lib.hid v2
    have hle := v0.le
    have hlm := Nat.le_of_eq v2
    clear g v2
    go_enter Try.func3, Try.ntmps3
    go_wp2_with fail
    refine (min_any a0 a1 l0 l1 c0 c1 _ h0 h1).mono ?_
    rintro e w1 ⟨Ax, cx, rfl, ox, bw1⟩
    replace h0 := h0.below bw1
    replace h1 := h1.below bw1
    replace hb := below_trans hb bw1
    have hx := Ints.of_own ox
    clear bw1 ox
    rw [← L1.out]
    rw [← L1.out] at hx
    go_wp2_with fail
    refine (max_any a0 a1 l0 l1 c0 c1 _ h0 h1).mono ?_
    rintro e w2 ⟨Ay, cy, rfl, oy, bw2⟩
    replace h0 := h0.below bw2
    replace h1 := h1.below bw2
    replace hx := hx.below bw2
    replace hb := below_trans hb bw2
    have hy := Ints.of_own oy
    clear bw2 oy
    rw [← L2.out]
    rw [← L2.out] at hy
    go_wp2_with fail
    refine (sum_any a0 a1 l0 l1 c0 c1 _ h0 h1).mono ?_
    rintro e w3 ⟨Az, cz, rfl, oz, bw3⟩
    replace h0 := h0.below bw3
    replace h1 := h1.below bw3
    replace hx := hx.below bw3
    replace hy := hy.below bw3
    replace hb := below_trans hb bw3
    have hz := Ints.of_own oz
    clear bw3 oz
    rw [← L3.out]
    rw [← L3.out] at hz
    go_wp2_with fail
    refine (refCurves_any a0 a1 l0 l1 c0 c1 _ h0 h1).mono ?_
    rintro e w' ⟨rfl, rfl⟩
    go_wp2_with fail
    refine (zip_any 21 a0 a1 l0 l1 c0 c1 (fun t => min (gt l0 t) (gt l1 t)) _ h0 h1 hle hlm (enters_of Try.func21 (by kernel_rfl) rfl) (fun t w _ => rmin_any _ _ w)).mono ?_
    rintro e w4 ⟨Ap, cp, rfl, op, bw4⟩
    replace h0 := h0.below bw4
    replace h1 := h1.below bw4
    replace hx := hx.below bw4
    replace hy := hy.below bw4
    replace hz := hz.below bw4
    replace hb := below_trans hb bw4
    have hp := Ints.of_own op
    clear bw4 op
    rw [← L1.out]
    rw [← L1.out] at hp
    go_wp2_with fail
    refine (told_at Ax Ap M1 M1 _ _ _ _ _ _ _ hx hp (fun _ => rfl) rfl rfl rfl).mono ?_
    rintro e w5 ⟨rfl, nw5, hww5⟩
    have bw5 := below_of_drewN hww5
    clear hww5
    replace h0 := h0.below bw5
    replace h1 := h1.below bw5
    replace hy := hy.below bw5
    replace hz := hz.below bw5
    replace hb := below_trans hb bw5
    clear bw5
    go_wp2_with fail
    refine (zip_any 22 a0 a1 l0 l1 c0 c1 (fun t => max (gt l0 t) (gt l1 t)) _ h0 h1 hle hlm (enters_of Try.func22 (by kernel_rfl) rfl) (fun t w _ => rmax_any _ _ w)).mono ?_
    rintro e w6 ⟨Aq, cq, rfl, oq, bw6⟩
    replace h0 := h0.below bw6
    replace h1 := h1.below bw6
    replace hy := hy.below bw6
    replace hz := hz.below bw6
    replace hb := below_trans hb bw6
    have hq := Ints.of_own oq
    clear bw6 oq
    rw [← L2.out]
    rw [← L2.out] at hq
    go_wp2_with fail
    refine (told_at Ay Aq M2 M2 _ _ _ _ _ _ _ hy hq (fun _ => rfl) rfl rfl rfl).mono ?_
    rintro e w7 ⟨rfl, nw7, hww7⟩
    have bw7 := below_of_drewN hww7
    clear hww7
    replace h0 := h0.below bw7
    replace h1 := h1.below bw7
    replace hz := hz.below bw7
    replace hb := below_trans hb bw7
    clear bw7
    go_wp2_with fail
    refine (zip_any 23 a0 a1 l0 l1 c0 c1 (fun t => gt l0 t + gt l1 t) _ h0 h1 hle hlm (enters_of Try.func23 (by kernel_rfl) rfl) (fun t w ht => rsum_any _ _ w (v0.lo t ht) (v0.hi t ht) (v1.lo t (by omega)) (v1.hi t (by omega)))).mono ?_
    rintro e w8 ⟨Ar, cr, rfl, or, bw8⟩
    replace hz := hz.below bw8
    replace hb := below_trans hb bw8
    have hr := Ints.of_own or
    clear bw8 or
    rw [← L3.out]
    rw [← L3.out] at hr
    go_wp2_with fail
    refine (told_at Az Ar M3 M3 _ _ _ _ _ _ _ hz hr (fun _ => rfl) rfl rfl rfl).mono ?_
    rintro e w9 ⟨rfl, nw9, hww9⟩
    have bw9 := below_of_drewN hww9
    clear hww9
    replace hb := below_trans hb bw9
    clear bw9
    go_wp2
    go_ret
    exact ⟨rfl, hb⟩
  · have e1 : (chk2 l0 l1 != 0) = true := by simp [g]
    have G := Lib.hid g
    clear g
    go_enter Try.func3, Try.ntmps3
    go_wp2_with fail
    refine (min_any a0 a1 l0 l1 c0 c1 _ h0 h1).mono ?_
    rintro e w1 ⟨Ax, cx, rfl, ox, bw1⟩
    replace h0 := h0.below bw1
    replace h1 := h1.below bw1
    replace hb := below_trans hb bw1
    have hx := Ints.of_own ox
    clear bw1 ox
    rw [← L1.out]
    rw [← L1.out] at hx
    go_wp2_with fail
    refine (max_any a0 a1 l0 l1 c0 c1 _ h0 h1).mono ?_
    rintro e w2 ⟨Ay, cy, rfl, oy, bw2⟩
    replace h0 := h0.below bw2
    replace h1 := h1.below bw2
    replace hx := hx.below bw2
    replace hb := below_trans hb bw2
    have hy := Ints.of_own oy
    clear bw2 oy
    rw [← L2.out]
    rw [← L2.out] at hy
    go_wp2_with fail
    refine (sum_any a0 a1 l0 l1 c0 c1 _ h0 h1).mono ?_
    rintro e w3 ⟨Az, cz, rfl, oz, bw3⟩
    replace h0 := h0.below bw3
    replace h1 := h1.below bw3
    replace hx := hx.below bw3
    replace hy := hy.below bw3
    replace hb := below_trans hb bw3
    have hz := Ints.of_own oz
    clear bw3 oz
    rw [← L3.out]
    rw [← L3.out] at hz
    go_wp2_with fail
    refine (refCurves_any a0 a1 l0 l1 c0 c1 _ h0 h1).mono ?_
    rintro e w' ⟨rfl, rfl⟩
    go_wp2_with fail
    refine (told_at Ax none M1 [] _ _ _ _ _ _ _ hx (Ints.nil_ _ _) (fun e => absurd e G.out) rfl rfl rfl).mono ?_
    rintro e w4 ⟨rfl, nw4, hww4⟩
    have bw4 := below_of_drewN hww4
    clear hww4
    replace hy := hy.below bw4
    replace hz := hz.below bw4
    replace hb := below_trans hb bw4
    clear bw4
    go_wp2_with fail
    refine (told_at Ay none M2 [] _ _ _ _ _ _ _ hy (Ints.nil_ _ _) (fun e => absurd e G.out) rfl rfl rfl).mono ?_
    rintro e w5 ⟨rfl, nw5, hww5⟩
    have bw5 := below_of_drewN hww5
    clear hww5
    replace hz := hz.below bw5
    replace hb := below_trans hb bw5
    clear bw5
    go_wp2_with fail
    refine (told_at Az none M3 [] _ _ _ _ _ _ _ hz (Ints.nil_ _ _) (fun e => absurd e G.out) rfl rfl rfl).mono ?_
    rintro e w6 ⟨rfl, nw6, hww6⟩
    have bw6 := below_of_drewN hww6
    clear hww6
    replace hb := below_trans hb bw6
    clear bw6
    go_wp2
    go_ret
    exact ⟨rfl, hb⟩

end Go.Proofs.Ythjdabmlilnepaa
