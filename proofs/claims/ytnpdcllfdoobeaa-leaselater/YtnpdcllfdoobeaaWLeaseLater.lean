
/-
  The law LeaseLater.
-/
import Derived.Test.YtnpdcllfdoobeaaLeaU
import Derived.Test.YtnpdcllfdoobeaaKeepA
namespace Go.Proofs.Ytnpdcllfdoobeaa
set_option linter.all false
open Go.RowKit Go.Shelf Go.Lib

theorem wiL (n m : Int) (h : 1 ≤ m) : 0 ≤ wi n m ∧ wi n m < m :=
  ⟨Int.emod_nonneg (n % 18446744073709551616) (show m ≠ 0 by omega), Int.emod_lt_of_pos (n % 18446744073709551616) (show 0 < m by omega)⟩
set_option maxRecDepth 100000 in
set_option maxHeartbeats 3200000 in
theorem walk_LeaseLater (A : Option Addr) (c : Nat) (l : List Lz) (now later to less : Int) (w : World) (h : Les w A l) (_k : l.length ≤ c) (_h1 : (Lit.int .i64 now).wf = true) (_h2 : (Lit.int .i64 later).wf = true) (_h3 : (Lit.int .i64 to).wf = true) (_h4 : (Lit.int .i64 less).wf = true) :
    Calls Try.prog 11 #[.slice A l.length c, .int .i64 now, .int .i64 later, .int .i64 to, .int .i64 less] w fun e w' => e = .returned (.bool true) ∧ Below w.heap.size w w' := by
  have hl := h.le
  have E0 : Hid (lzE [⟨0, 3, 0⟩, ⟨1, 4, 0⟩] = 0) := Lib.hid (by decide)
  have L0 : Hid (liveL 3 [⟨0, 3, 0⟩, ⟨1, 4, 0⟩] = [⟨1, 4, 0⟩]) := Lib.hid (by rfl)
  go_enter Try.func11, Try.ntmps11
  go_wp2_with fail
  refine (live_yes (some ⟨w.heap.size, 0, none⟩) [⟨0, 3, 0⟩, ⟨1, 4, 0⟩] 2 2 3 _ (Les.lit w _ _ _ rfl (by decide)) rfl E0).mono ?_
  rintro e w1 ⟨A1, c1, rfl, o1, b1⟩
  rw [L0.out]
  have hb := below_of1 b1
  replace h := h.below hb
  clear b1 o1 E0 L0
  rcases Int.lt_trichotomy now later with q | q | q
  · by_cases hC : cuE now to l = 0
    rotate_left
    · have HC := Lib.hid hC
      have e1 : (cuE now to l != 0) = true := by simp [hC]
      clear hC
      go_wp2_with fail
      refine (cut_no A l _ c now to _ h rfl HC).mono ?_
      rintro e w2 ⟨rfl, b2⟩
      replace hb := below_trans hb b2
      go_wp2
      go_ret
      exact ⟨rfl, hb⟩
    have HC := Lib.hid hC
    obtain ⟨v, t0, t1, ct⟩ := cu_iff.mp hC
    obtain ⟨q0, q1⟩ := wiL less (to + 1) (by omega)
    have HY : Hid (cuE later to l = 0) := Lib.hid (cu_iff.mpr ⟨v, t0, t1, ct.less (by omega) (Int.le_refl _)⟩)
    have HZ : Hid (cuE now (wi less (to + 1)) l = 0) := Lib.hid (cu_iff.mpr ⟨v, q0, by omega, ct.less (Int.le_refl _) (by omega)⟩)
    have HL : Hid ((liveL later l).length ≤ (liveL now l).length) := Lib.hid (live_count (by omega) l)
    obtain ⟨u, hu⟩ : ∃ u, u = wi less (to + 1) := ⟨_, rfl⟩
    have HU := Lib.hid hu
    rw [← hu] at HZ
    clear hC ct hu q0 q1
    go_wp2_with fail
    refine (cut_yes A l _ c now to _ h rfl HC).mono ?_
    rintro e w2 ⟨A2, c2, rfl, o2, b2⟩
    replace h := h.below b2
    replace hb := below_trans hb b2
    go_wp2_with fail
    refine (cut_yes A l _ c later to _ h rfl HY).mono ?_
    rintro e w3 ⟨A3, c3, rfl, o3, b3⟩
    replace h := h.below b3
    replace hb := below_trans hb b3
    have i2 := (Les.of_row o2).below b3
    clear o2 o3
    go_wp2_with fail
    refine (within_any less (to + 1) _ (by omega) (by omega)).mono ?_
    rintro e w4 ⟨rfl, rfl⟩
    rw [← HU.out]
    go_wp2_with fail
    refine (cut_yes A l _ c now u _ h rfl HZ).mono ?_
    rintro e w5 ⟨A5, c5, rfl, o5, b5⟩
    replace hb := below_trans hb b5
    replace i2 := i2.below b5
    have i5 := Les.of_row o5
    clear o5
    go_wp2_with fail
    refine (leSame A5 A2 (liveL now l) _ _ _ _ _ i5 i2 rfl rfl).mono ?_
    rintro e w6 ⟨rfl, n6, hw6⟩
    replace hb := below_trans hb (below_of_drewN hw6)
    have i1 : ((liveL later l).length : Int) ≤ ((liveL now l).length : Int) := by have := HL.out; omega
    have i3 := HL.out
    clear hw6 i2 i5
    go_wp2
    go_ret
    exact ⟨rfl, hb⟩
  · subst q
    by_cases hC : cuE now to l = 0
    rotate_left
    · have HC := Lib.hid hC
      have e1 : (cuE now to l != 0) = true := by simp [hC]
      clear hC
      go_wp2_with fail
      refine (cut_no A l _ c now to _ h rfl HC).mono ?_
      rintro e w2 ⟨rfl, b2⟩
      replace hb := below_trans hb b2
      go_wp2
      go_ret
      exact ⟨rfl, hb⟩
    have HC := Lib.hid hC
    obtain ⟨v, t0, t1, ct⟩ := cu_iff.mp hC
    obtain ⟨q0, q1⟩ := wiL less (to + 1) (by omega)
    have HY : Hid (cuE now to l = 0) := Lib.hid (cu_iff.mpr ⟨v, t0, t1, ct.less (by omega) (Int.le_refl _)⟩)
    have HZ : Hid (cuE now (wi less (to + 1)) l = 0) := Lib.hid (cu_iff.mpr ⟨v, q0, by omega, ct.less (Int.le_refl _) (by omega)⟩)
    have HL : Hid ((liveL now l).length ≤ (liveL now l).length) := Lib.hid (live_count (by omega) l)
    obtain ⟨u, hu⟩ : ∃ u, u = wi less (to + 1) := ⟨_, rfl⟩
    have HU := Lib.hid hu
    rw [← hu] at HZ
    clear hC ct hu q0 q1
    go_wp2_with fail
    refine (cut_yes A l _ c now to _ h rfl HC).mono ?_
    rintro e w2 ⟨A2, c2, rfl, o2, b2⟩
    replace h := h.below b2
    replace hb := below_trans hb b2
    go_wp2_with fail
    refine (cut_yes A l _ c now to _ h rfl HY).mono ?_
    rintro e w3 ⟨A3, c3, rfl, o3, b3⟩
    replace h := h.below b3
    replace hb := below_trans hb b3
    have i2 := (Les.of_row o2).below b3
    clear o2 o3
    go_wp2_with fail
    refine (within_any less (to + 1) _ (by omega) (by omega)).mono ?_
    rintro e w4 ⟨rfl, rfl⟩
    rw [← HU.out]
    go_wp2_with fail
    refine (cut_yes A l _ c now u _ h rfl HZ).mono ?_
    rintro e w5 ⟨A5, c5, rfl, o5, b5⟩
    replace hb := below_trans hb b5
    replace i2 := i2.below b5
    have i5 := Les.of_row o5
    clear o5
    go_wp2_with fail
    refine (leSame A5 A2 (liveL now l) _ _ _ _ _ i5 i2 rfl rfl).mono ?_
    rintro e w6 ⟨rfl, n6, hw6⟩
    replace hb := below_trans hb (below_of_drewN hw6)
    have i1 : ((liveL now l).length : Int) ≤ ((liveL now l).length : Int) := by have := HL.out; omega
    have i3 := HL.out
    clear hw6 i2 i5
    go_wp2
    go_ret
    exact ⟨rfl, hb⟩
  · by_cases hC : cuE later to l = 0
    rotate_left
    · have HC := Lib.hid hC
      have e1 : (cuE later to l != 0) = true := by simp [hC]
      clear hC
      go_wp2_with fail
      refine (cut_no A l _ c later to _ h rfl HC).mono ?_
      rintro e w2 ⟨rfl, b2⟩
      replace hb := below_trans hb b2
      go_wp2
      go_ret
      exact ⟨rfl, hb⟩
    have HC := Lib.hid hC
    obtain ⟨v, t0, t1, ct⟩ := cu_iff.mp hC
    obtain ⟨q0, q1⟩ := wiL less (to + 1) (by omega)
    have HY : Hid (cuE now to l = 0) := Lib.hid (cu_iff.mpr ⟨v, t0, t1, ct.less (by omega) (Int.le_refl _)⟩)
    have HZ : Hid (cuE later (wi less (to + 1)) l = 0) := Lib.hid (cu_iff.mpr ⟨v, q0, by omega, ct.less (Int.le_refl _) (by omega)⟩)
    have HL : Hid ((liveL now l).length ≤ (liveL later l).length) := Lib.hid (live_count (by omega) l)
    obtain ⟨u, hu⟩ : ∃ u, u = wi less (to + 1) := ⟨_, rfl⟩
    have HU := Lib.hid hu
    rw [← hu] at HZ
    clear hC ct hu q0 q1
    go_wp2_with fail
    refine (cut_yes A l _ c later to _ h rfl HC).mono ?_
    rintro e w2 ⟨A2, c2, rfl, o2, b2⟩
    replace h := h.below b2
    replace hb := below_trans hb b2
    go_wp2_with fail
    refine (cut_yes A l _ c now to _ h rfl HY).mono ?_
    rintro e w3 ⟨A3, c3, rfl, o3, b3⟩
    replace h := h.below b3
    replace hb := below_trans hb b3
    have i2 := (Les.of_row o2).below b3
    clear o2 o3
    go_wp2_with fail
    refine (within_any less (to + 1) _ (by omega) (by omega)).mono ?_
    rintro e w4 ⟨rfl, rfl⟩
    rw [← HU.out]
    go_wp2_with fail
    refine (cut_yes A l _ c later u _ h rfl HZ).mono ?_
    rintro e w5 ⟨A5, c5, rfl, o5, b5⟩
    replace hb := below_trans hb b5
    replace i2 := i2.below b5
    have i5 := Les.of_row o5
    clear o5
    go_wp2_with fail
    refine (leSame A5 A2 (liveL later l) _ _ _ _ _ i5 i2 rfl rfl).mono ?_
    rintro e w6 ⟨rfl, n6, hw6⟩
    replace hb := below_trans hb (below_of_drewN hw6)
    have i1 : ((liveL now l).length : Int) ≤ ((liveL later l).length : Int) := by have := HL.out; omega
    have i3 := HL.out
    clear hw6 i2 i5
    go_wp2
    go_ret
    exact ⟨rfl, hb⟩

end Go.Proofs.Ytnpdcllfdoobeaa
