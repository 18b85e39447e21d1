
/-
  The law RetryWaits.
-/
import Derived.Test.YtnpdcllfdoobeaaRetX
import Derived.Test.YtnpdcllfdoobeaaCurveB
namespace Go.Proofs.Ytnpdcllfdoobeaa
set_option linter.all false
open Go.RowKit Go.Shelf Go.Lib

theorem own_intI {w : World} {base n c : Nat} {A : Option Addr} {F : Nat → Int} (h : w.ownsRow base 3 1 (.slice A n c) n ((tab n F).map (Value.int .i64))) : ∀ {L : List Int}, L = tab n F → Ints w A L := fun e => by rw [e]; exact own_int h
set_option maxRecDepth 100000 in
set_option maxHeartbeats 1600000 in
theorem walk_RetryWaits (n1 n2 n3 : Int) (w : World) (_h1 : (Lit.int .i64 n1).wf = true) (_h2 : (Lit.int .i64 n2).wf = true) (_h3 : (Lit.int .i64 n3).wf = true) :
    Calls Try.prog 6 #[.int .i64 n1, .int .i64 n2, .int .i64 n3] w fun e w' => e = .returned (.bool true) ∧ Below w.heap.size w w' := by
  go_enter Try.func6, Try.ntmps6
  go_wp2_with fail
  refine (waits_yes 3 10 4 _ ⟨by decide, by decide, by decide⟩ (by decide)).mono ?_
  rintro e w1 ⟨A, c, rfl, o1, b1⟩
  have ix := own_intI o1 (L := [3, 6, 10, 10]) (by decide)
  have hb := b1
  clear o1 b1
  go_wp2_with fail
  refine (equal_at A _ [3, 6, 10, 10] [3, 6, 10, 10] _ _ _ _ _ (ix.alloc _) (by exact Ints.lit _ _ _ _ rfl (by decide)) rfl rfl).mono ?_
  rintro e w2 ⟨rfl, n2', hw2⟩
  rw [eqB_true rfl]
  have hb2 := below_trans hb (below_of1 (below_of_drewN hw2))
  clear hw2 ix hb
  by_cases hE : rtE n1 n2 n3 = 0
  · obtain ⟨v, p0, p1⟩ := rt_iff.mp hE
    obtain ⟨N, rfl⟩ := Int.eq_ofNat_of_zero_le p0
    have q0 := v.lo
    have q1 := v.le
    have q2 := v.hi
    have hN : N ≤ 40 := by omega
    clear hE
    go_wp2_with fail
    refine (waits_yes n1 n2 N _ v hN).mono ?_
    rintro e w3 ⟨B, d, rfl, o3, b3⟩
    have hx := own_int o3
    have hb3 := below_trans hb2 b3
    clear o3 b3 hb2
    go_wp2
    go_loop [11, 40] (fun t s => ∃ k : Nat, k ≤ N ∧ s = .int .i64 k ∧ t = .int .i64 (wtS n1 n2 k)) (fun _ s => N - (intOf s).toNat)
    case atStart => exact ⟨0, Nat.zero_le _, rfl, rfl⟩
    case round =>
      obtain ⟨k, hk, rfl, rfl⟩ := hrel
      have bd := ws_bd v k
      have e0 : 0 ≤ wtS n1 n2 k := Int.le_trans (Int.mul_nonneg (by omega) (by omega)) bd.1
      have e1 : wtS n1 n2 k ≤ 40000000 := by
        have a1 : (k : Int) * n2 ≤ 40 * n2 := Int.mul_le_mul_of_nonneg_right (by omega) (by omega)
        omega
      by_cases hlt : k < N
      · obtain ⟨bb', off', eB, hc'⟩ := hx.2 (by rw [length_tab]; omega)
        subst eB
        have cell : ∀ j, j < N → w3.cell? ⟨bb', off' + j, none⟩ = some (.int .i64 (wtV n1 n2 j)) := fun j hj => by
          have := hc' j (by rw [length_tab]; exact hj)
          rw [show (tab N (wtV n1 n2)).getD j 0 = wtV n1 n2 j from gt_tab _ hj] at this
          exact this
        have CC := Lib.hid cell
        clear hc' cell bd
        have hcell' := CC.out k hlt
        have bx := wt_bd v k
        have HS : Hid (wtS n1 n2 (k + 1) = wtS n1 n2 k + wtV n1 n2 k) := Lib.hid rfl
        obtain ⟨sv, hs⟩ : ∃ sv, sv = wtS n1 n2 k := ⟨_, rfl⟩
        rw [← hs] at HS e0 e1 ⊢
        have i2 : (k : Int) < (N : Int) := by omega
        clear hs
        by_cases k0 : k = 0
        · subst k0
          have HW : Hid (wtV n1 n2 0 = n1) := Lib.hid rfl
          rw [HW.out, Nat.add_zero] at hcell'
          rw [HW.out] at HS bx
          have z7 : (0 : Int) < (N : Int) := by omega
          have z8 : 0 < N := by omega
          clear HW CC
          go_wp2
          go_round
          case rel => exact ⟨1, by omega, by go_num, by rw [HS.out]⟩
          case measure => simp [intOf]; omega
        · obtain ⟨m, hm⟩ : ∃ m, m = k - 1 := ⟨_, rfl⟩
          have hcm := CC.out m (by omega)
          have up := wt_up v m
          rw [show m + 1 = k by omega] at up
          have m1 : IntKind.i64.wrap ((k : Int) - 1) = (m : Int) := by rw [IntWalk.i64_in _ ⟨by omega, by omega⟩]; omega
          have m2 : ((k : Int) - 1).toNat = m := by omega
          have bm := wt_bd v m
          obtain ⟨x, hx1⟩ : ∃ x, x = wtV n1 n2 k := ⟨_, rfl⟩
          obtain ⟨y, hy1⟩ : ∃ y, y = wtV n1 n2 m := ⟨_, rfl⟩
          rw [← hx1] at hcell' HS bx up
          rw [← hy1] at hcm up bm
          obtain ⟨x0, x1⟩ := bx
          obtain ⟨y0, y1⟩ := bm
          obtain ⟨u0, u1⟩ := up
          have z1 : ¬ x < y := by omega
          have z2 : ¬ 2 * y < x := by omega
          have z3 : ¬ n2 < x := by omega
          have z4 : (0 : Int) < (k : Int) := by omega
          have z5 : ¬ (k : Int) = 0 := by omega
          have z6 : ((k : Int) == 0) = false := by rw [beq_eq_false_iff_ne]; omega
          have z7 : (m : Int) < (N : Int) := by omega
          have z8 : 0 < k := by omega
          have HM := Lib.hid hm
          clear CC hx1 hy1 hm
          go_wp2
          go_round
          case rel => exact ⟨k + 1, by omega, by go_num, by rw [HS.out]⟩
          case measure => simp [intOf]; omega
      · obtain rfl : k = N := by omega
        have i2 : ¬ (k : Int) < (k : Int) := by omega
        obtain ⟨bd0, bd1⟩ := bd
        have f0 : 0 ≤ (k : Int) * n1 := Int.mul_nonneg (by omega) (by omega)
        have f1 : 0 ≤ (k : Int) * n2 := Int.mul_nonneg (by omega) (by omega)
        have f2 : (k : Int) * n2 ≤ 40 * n2 := Int.mul_le_mul_of_nonneg_right (by omega) (by omega)
        obtain ⟨P, hP⟩ : ∃ P, P = (k : Int) * n1 := ⟨_, rfl⟩
        obtain ⟨R, hR⟩ : ∃ R, R = (k : Int) * n2 := ⟨_, rfl⟩
        have m1 : IntKind.i64.wrap ((k : Int) * n1) = (k : Int) * n1 := IntWalk.i64_in _ ⟨by omega, by omega⟩
        have m2 : IntKind.i64.wrap ((k : Int) * n2) = (k : Int) * n2 := IntWalk.i64_in _ ⟨by omega, by omega⟩
        clear hP hR
        go_wp2
        go_ret
        exact ⟨rfl, hb3⟩
  · go_wp2_with fail
    refine (waits_no n1 n2 n3 _ hE).mono ?_
    rintro e w3 ⟨rfl, rfl⟩
    clear hE
    go_wp2
    go_ret
    exact ⟨rfl, hb2⟩

end Go.Proofs.Ytnpdcllfdoobeaa
