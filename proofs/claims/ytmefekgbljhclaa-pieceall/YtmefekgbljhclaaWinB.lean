
/-
  The laws WindowGrows, WindowOne, WindowFull over what package window owes.
-/
import Derived.Test.YtmefekgbljhclaaWinA
import Derived.Test.YtmefekgbljhclaaWindowQ
import Derived.Test.YtmefekgbljhclaaKeepA
namespace Go.Proofs.Ytmefekgbljhclaa
set_option linter.all false
open Go.RowKit Go.Shelf Go.Lib

theorem wiW (n m : Int) (h : 1 ≤ m) : ∃ k : Nat, wi n m = (k : Int) ∧ (k : Int) < m := by
  have h0 := Int.emod_nonneg (n % 18446744073709551616) (show m ≠ 0 by omega)
  have h1 := Int.emod_lt_of_pos (n % 18446744073709551616) (show 0 < m by omega)
  refine ⟨(wi n m).toNat, ?_, ?_⟩
  · unfold wi; omega
  · unfold wi; omega
theorem dn_mono {w v p u n m : Nat} (hw : 1 ≤ w) (hu : 1 ≤ u) (h1 : w ≤ v) (h2 : u ≤ p) (h3 : m ≤ n) : dnV v u m ≤ dnV w p n := by
  unfold dnV
  by_cases c : m = 0
  · rw [if_pos c]; exact Nat.zero_le _
  · rw [if_neg c, if_neg (by omega)]
    have a := sf_mono hw hu h1 h2 (m - 1)
    have b := sf_up (w := w) (p := p) hw (by omega) (i := m - 1) (j := n - 1) (by omega)
    omega
theorem dn_max {n w p : Nat} (h : WnOk n w p) : dnV w p n ≤ 40400 := by
  unfold dnV
  split
  · omega
  · have := sf_max h (i := n - 1) (by have := h.n1; omega)
    have := h.p1
    omega
theorem WinC.done_at (E : WinC) {n w p : Int} (N W P : Nat) (w0 : World) (h : WnOk N W P) (e1 : n = N) (e2 : w = W) (e3 : p = P) : Calls Try.prog 30 #[.int .i64 n, .int .i64 w, .int .i64 p] w0 fun e W' => e = .returned (.tuple #[.int .i64 (dnV W P N), .int .i64 0]) ∧ Below w0.heap.size w0 W' := by
  subst e1 e2 e3
  exact E.done N W P w0 h
theorem WinC.sent_at (E : WinC) {n w p : Int} (N W P : Nat) (w0 : World) (h : WnOk N W P) (e1 : n = N) (e2 : w = W) (e3 : p = P) : Calls Try.prog 29 #[.int .i64 n, .int .i64 w, .int .i64 p] w0 fun e W' => ∃ (A : Option Addr) (c : Nat), e = .returned (.tuple #[.slice A N c, .int .i64 0]) ∧ Ints W' A (tab N (swV W P)) ∧ N ≤ c ∧ Below w0.heap.size w0 W' := by
  subst e1 e2 e3
  exact E.sent' N W P w0 h
theorem win_lit2 : WnOk 3 1 5 := ⟨by omega, by omega, by omega, by omega, by omega⟩
theorem win_lit3 : WnOk 2 1 7 := ⟨by omega, by omega, by omega, by omega, by omega⟩
theorem win_row2 : tab 3 (swV 1 5) = [0, 5, 10] := by decide
theorem win_row3 : tab 2 (swV 1 7) = [0, 7] := by decide
set_option maxRecDepth 100000 in
set_option maxHeartbeats 3200000 in
theorem v_WindowGrows (E : WinC) (n1 n2 n3 n4 n5 n6 : Int) (w : World) (_h1 : (Lit.int .i64 n1).wf = true) (_h2 : (Lit.int .i64 n2).wf = true) (_h3 : (Lit.int .i64 n3).wf = true) (_h4 : (Lit.int .i64 n4).wf = true) (_h5 : (Lit.int .i64 n5).wf = true) (_h6 : (Lit.int .i64 n6).wf = true) :
    Calls Try.prog 11 #[.int .i64 n1, .int .i64 n2, .int .i64 n3, .int .i64 n4, .int .i64 n5, .int .i64 n6] w fun e w' => e = .returned (.bool true) ∧ Below w.heap.size w w' := by
  have hb := Below.refl w.heap.size w
  have hd15 : ((dnV 1 5 3 : Nat) : Int) = 15 := by decide
  go_enter Try.func11, Try.ntmps11
  go_wp2_with fail
  refine (E.done 3 1 5 _ win_lit2).mono ?_
  rintro e w1 ⟨rfl, b1⟩
  rw [hd15]
  replace hb := below_trans hb b1
  clear b1
  by_cases hE : wnE n1 n2 n3 = 0
  · obtain ⟨N, W, P, rfl, rfl, rfl, v⟩ := wn_of hE
    have v1 := v.n1
    have v2 := v.w0
    have v3 := v.w1
    have v4 := v.p0
    have v5 := v.p1
    have hdm := dn_max v
    obtain ⟨A, hA, A1⟩ := wiW n4 ((N : Int) + 1) (by omega)
    obtain ⟨B, hB, B1⟩ := wiW n5 (200 - (W : Int) + 1) (by omega)
    obtain ⟨C, hC, C1⟩ := wiW n6 (P : Int) (by omega)
    have HA := Lib.hid hA
    have HB := Lib.hid hB
    have HC := Lib.hid hC
    have v' : WnOk A (W + B) (1 + C) := ⟨by omega, by omega, by omega, by omega, by omega⟩
    obtain ⟨X, hX⟩ : ∃ X, X = dnV (W + B) (1 + C) A := ⟨_, rfl⟩
    obtain ⟨Y, hY⟩ : ∃ Y, Y = dnV W P N := ⟨_, rfl⟩
    have XY : X ≤ Y := by rw [hX, hY]; exact dn_mono v2 (by omega) (by omega) (by omega) (by omega)
    have HX := Lib.hid hX
    have HY := Lib.hid hY
    clear hE hA hB hC hX hY hdm
    go_wp2_with fail
    refine (E.done N W P _ v).mono ?_
    rintro e w2 ⟨rfl, b2⟩
    rw [← HY.out]
    replace hb := below_trans hb b2
    clear b2
    have m1 : IntKind.i64.wrap ((N : Int) + 1) = (N : Int) + 1 := IntWalk.i64_in _ ⟨by omega, by omega⟩
    have m2 : IntKind.i64.wrap (200 - (W : Int)) = 200 - (W : Int) := IntWalk.i64_in _ ⟨by omega, by omega⟩
    have m3 : IntKind.i64.wrap (200 - (W : Int) + 1) = 200 - (W : Int) + 1 := IntWalk.i64_in _ ⟨by omega, by omega⟩
    have m4 : IntKind.i64.wrap ((W : Int) + (B : Int)) = (W : Int) + (B : Int) := IntWalk.i64_in _ ⟨by omega, by omega⟩
    have m5 : IntKind.i64.wrap (1 + (C : Int)) = 1 + (C : Int) := IntWalk.i64_in _ ⟨by omega, by omega⟩
    go_wp2_with fail
    refine (within_any n4 ((N : Int) + 1) _ (by omega) (by omega)).mono ?_
    rintro e w' ⟨rfl, rfl⟩
    rw [HA.out]
    go_wp2_with fail
    refine (within_any n5 (200 - (W : Int) + 1) _ (by omega) (by omega)).mono ?_
    rintro e w' ⟨rfl, rfl⟩
    rw [HB.out]
    go_wp2_with fail
    refine (within_any n6 (P : Int) _ (by omega) (by omega)).mono ?_
    rintro e w' ⟨rfl, rfl⟩
    rw [HC.out]
    go_wp2_with fail
    refine (E.done_at A (W + B) (1 + C) _ v' (by omega) (by omega) (by omega)).mono ?_
    rintro e w3 ⟨rfl, b3⟩
    rw [← HX.out]
    replace hb := below_trans hb b3
    have e1 : decide ((X : Int) ≤ (Y : Int)) = true := decide_eq_true (by omega)
    have e2 : (X : Int) ≤ (Y : Int) := by omega
    clear b3
    go_wp2
    go_ret
    exact ⟨rfl, hb⟩
  · go_wp2_with fail
    refine (E.done_no n1 n2 n3 _ hE).mono ?_
    rintro e w4 ⟨rfl, b4⟩
    replace hb := below_trans hb b4
    clear b4 hE
    go_wp2
    go_ret
    exact ⟨rfl, hb⟩

set_option maxRecDepth 100000 in
set_option maxHeartbeats 3200000 in
theorem v_WindowOne (E : WinC) (n1 n2 n3 : Int) (w : World) (_h1 : (Lit.int .i64 n1).wf = true) (_h2 : (Lit.int .i64 n2).wf = true) (_h3 : (Lit.int .i64 n3).wf = true) :
    Calls Try.prog 12 #[.int .i64 n1, .int .i64 n2, .int .i64 n3] w fun e w' => e = .returned (.bool true) ∧ Below w.heap.size w w' := by
  have hb := Below.refl w.heap.size w
  go_enter Try.func12, Try.ntmps12
  go_wp2_with fail
  refine (E.sent' 2 1 7 _ win_lit3).mono ?_
  rintro e w1 ⟨A, c, rfl, ix, hc, b1⟩
  rw [win_row3] at ix
  replace hb := below_trans hb b1
  clear b1
  go_wp2_with fail
  refine (equal_at A _ [0, 7] [0, 7] _ _ _ _ _ (ix.alloc _) (by exact Ints.lit _ _ _ _ rfl (by decide)) rfl rfl).mono ?_
  rintro e w2 ⟨rfl, m2, hw2⟩
  rw [eqB_true rfl]
  have b2 := below_of1 (below_of_drewN hw2)
  replace hb := below_trans hb b2
  clear b2 hw2 ix hc
  by_cases hE : wnE n1 n2 n3 = 0
  · obtain ⟨N, W, P, rfl, rfl, rfl, v⟩ := wn_of hE
    have v1 := v.n1
    have v2 := v.w0
    have v3 := v.w1
    have v4 := v.p0
    have v5 := v.p1
    clear hE
    go_wp2_with fail
    refine (E.sent' N W P _ v).mono ?_
    rintro e w3 ⟨A, c, rfl, ix, hc, b3⟩
    replace hb := below_trans hb b3
    clear b3
    by_cases hW : 200 ≤ W
    · have e1 : decide ((200 : Int) ≤ (W : Int)) = true := decide_eq_true (by omega)
      have i1 : (200 : Int) ≤ (W : Int) := by omega
      go_wp2
      go_ret
      exact ⟨rfl, hb⟩
    · have e1 : decide ((200 : Int) ≤ (W : Int)) = false := decide_eq_false (by omega)
      have i1 : ¬ (200 : Int) ≤ (W : Int) := by omega
      have vW : WnOk N (W + 1) P := ⟨by omega, by omega, by omega, by omega, by omega⟩
      have vO : WnOk N 1 P := ⟨by omega, by omega, by omega, by omega, by omega⟩
      have m1 : IntKind.i64.wrap ((W : Int) + 1) = (W : Int) + 1 := IntWalk.i64_in _ ⟨by omega, by omega⟩
      go_wp2_with fail
      refine (E.sent_at N (W + 1) P _ vW (by omega) (by omega) (by omega)).mono ?_
      rintro e w4 ⟨B, d, rfl, iy, hd, b4⟩
      replace hb := below_trans hb b4
      replace ix := ix.below b4
      clear b4
      go_wp2_with fail
      refine (E.sent_at N 1 P _ vO (by omega) (by omega) (by omega)).mono ?_
      rintro e w5 ⟨D, f, rfl, iz, hf, b5⟩
      replace hb := below_trans hb b5
      replace ix := ix.below b5
      replace iy := iy.below b5
      clear b5
      go_wp2
      go_loopw [88] (fun s wr => ∃ i : Nat, i ≤ N ∧ s = .int .i64 i ∧ Ints wr A (tab N (swV W P)) ∧ Ints wr B (tab N (swV (W + 1) P)) ∧ Ints wr D (tab N (swV 1 P)) ∧ Below w.heap.size w wr) (fun s _ => N - (intOf s).toNat)
      case atStart => exact ⟨0, Nat.zero_le _, rfl, ix, iy, iz, hb⟩
      case round =>
        clear ix iy iz hb
        obtain ⟨i, hi, rfl, ix, iy, iz, hb⟩ := hrel
        by_cases hlt : i < N
        · obtain ⟨b1', o1', x, rfl, cx, HX⟩ := ix.at_ (k := i) (by rw [length_tab]; exact hlt)
          obtain ⟨b2', o2', y, rfl, cy, HY⟩ := iy.at_ (k := i) (by rw [length_tab]; exact hlt)
          obtain ⟨b3', o3', z, rfl, cz, HZ⟩ := iz.at_ (k := i) (by rw [length_tab]; exact hlt)
          have hx : x = swV W P i := by have := HX.out; rw [get_tab _ hlt] at this; exact (Option.some.inj this).symm
          have hy : y = swV (W + 1) P i := by have := HY.out; rw [get_tab _ hlt] at this; exact (Option.some.inj this).symm
          have hz : z = swV 1 P i := by have := HZ.out; rw [get_tab _ hlt] at this; exact (Option.some.inj this).symm
          have a1 : y ≤ x := by rw [hx, hy]; unfold swV; have := sf_mono (w := W) (v := W + 1) (p := P) (u := P) v2 v4 (by omega) (Nat.le_refl _) i; omega
          have a2 : z = (i : Int) * (P : Int) := by rw [hz]; unfold swV; rw [sf_one v4]; simp
          have a3 : (i : Int) ≤ x := by rw [hx]; unfold swV; have := sf_ge (w := W) (p := P) v2 v4 i; omega
          have a4 : 0 ≤ z ∧ z ≤ 40000 := by
            rw [a2]
            have x1 : (i : Int) * (P : Int) ≤ (i : Int) * 200 := Int.mul_le_mul_of_nonneg_left (by omega) (by omega)
            have y1 : 0 ≤ (i : Int) * (P : Int) := Int.mul_nonneg (by omega) (by omega)
            omega
          obtain ⟨z0, z1⟩ := a4
          have i2 : (i : Int) < (N : Int) := by omega
          have m2 : IntKind.i64.wrap ((i : Int) * (P : Int)) = z := by rw [← a2]; exact IntWalk.i64_in _ ⟨by omega, by omega⟩
          have e2 : decide (x < y) = false := decide_eq_false (by omega)
          have e3 : decide (x < (i : Int)) = false := decide_eq_false (by omega)
          clear hx hy hz a2
          go_wp2
          go_quiet (fail)
          go_wp2
          go_roundw
          case rel => exact ⟨i + 1, by omega, by go_num, ix.drewN _, iy.drewN _, iz.drewN _, ⟨hb.os, hb.tape, hb.output, hb.size, hb.block⟩⟩
          case measure => simp [intOf]; omega
        · go_wp2
          go_ret
          exact ⟨rfl, hb⟩
  · go_wp2_with fail
    refine (E.sent_no n1 n2 n3 _ hE).mono ?_
    rintro e w3 ⟨⟨A, c, rfl⟩, b3⟩
    replace hb := below_trans hb b3
    clear b3 hE
    go_wp2
    go_ret
    exact ⟨rfl, hb⟩

end Go.Proofs.Ytmefekgbljhclaa
