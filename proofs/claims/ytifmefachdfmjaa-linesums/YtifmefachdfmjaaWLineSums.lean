
/-
  The walk of the law LineSums.
-/
import Derived.Test.YtifmefachdfmjaaLineA
namespace Go.Proofs.Ytifmefachdfmjaa
set_option linter.all false
open Go.RowKit Go.Shelf


set_option maxRecDepth 100000 in
set_option maxHeartbeats 3200000 in
theorem walk_LineSums (a0 : Option Addr) (c0 : Nat) (l0 : List Int) (n : Int) (w : World)
    (h0 : Ints w a0 l0) (k0 : l0.length ≤ c0) (_hn : (Lit.int .i64 n).wf = true) :
    Calls Try.prog 9 #[.slice a0 l0.length c0, .int .i64 n] w fun e w' => e = .returned (.bool true) ∧ Below w.heap.size w w' := by
  have hb : Below w.heap.size w w := Below.refl _ _
  clear _hn
  by_cases hE : linE l0 n = 0
  · obtain ⟨v, r0, r1⟩ := lin_ok hE
    have HE := Lib.hid hE
    have hle := v.le
    clear hE
    go_enter Try.func9, Try.ntmps9
    go_wp2_with fail
    refine (lrun_yes _ [1, 5] [1, 3] [0, 2] _ 2 _ 3 _ (Lib.hid (by decide)) (Lib.hid (by decide)) (Lib.hid (by decide)) (by exact Ints.lit _ [1, 5] _ _ rfl (by decide)) rfl rfl).mono ?_
    rintro e w1 ⟨Ax, cx, Ay, cy, rfl, hx, hy, kx, ky, bw1⟩
    replace bw1 := below_of1 bw1
    replace h0 := h0.below bw1
    replace hb := below_trans hb bw1
    clear bw1
    go_wp2_with fail
    refine (equal_at Ax _ [1, 3] [1, 3] _ _ _ _ _ (by exact Ints.alloc hx _) (by exact Ints.lit _ [1, 3] _ _ rfl (by decide)) rfl rfl).mono ?_
    rintro e w2 ⟨rfl, nw2, hww2⟩
    have bw2 := below_of_drewN hww2
    clear hww2
    replace bw2 := below_of1 bw2
    replace h0 := h0.below bw2
    replace hy := hy.below bw2
    replace hb := below_trans hb bw2
    clear bw2
    rw [eqB_true rfl]
    go_wp2_with fail
    refine (equal_at Ay _ [0, 2] [0, 2] _ _ _ _ _ (by exact Ints.alloc hy _) (by exact Ints.lit _ [0, 2] _ _ rfl (by decide)) rfl rfl).mono ?_
    rintro e w3 ⟨rfl, nw3, hww3⟩
    have bw3 := below_of_drewN hww3
    clear hww3
    replace bw3 := below_of1 bw3
    replace h0 := h0.below bw3
    replace hb := below_trans hb bw3
    clear bw3
    rw [eqB_true rfl]
    clear hx hy kx ky
    go_wp2_with fail
    refine (lrun_yes a0 l0 (goL l0 n) (waL l0 n) _ l0.length c0 n _ HE (Lib.hid rfl) (Lib.hid rfl) h0 rfl rfl).mono ?_
    rintro e w4 ⟨Ax, cx, Ay, cy, rfl, hx, hy, kx, ky, bw4⟩
    replace h0 := h0.below bw4
    replace hb := below_trans hb bw4
    clear bw4
    go_wp2
    go_loopw [11, 65] (fun m i wr => ∃ k nd : Nat, k ≤ l0.length ∧ i = .int .i64 k ∧ m = .int .i64 (waV l0 n k) ∧ wr = w4.drewN nd) (fun _ i _ => l0.length - (intOf i).toNat)
    case atStart => exact ⟨0, 0, Nat.zero_le _, rfl, rfl, rfl⟩
    case round =>
      obtain ⟨k, nd, hk, rfl, rfl, rfl⟩ := hrel
      obtain ⟨p, hp⟩ : ∃ p, p = waV l0 n k := ⟨_, rfl⟩
      rw [← hp]
      by_cases hlt : k < l0.length
      · obtain ⟨b1, o1, x, e1, hc1, HX⟩ := hx.at_ (k := k) (by rw [length_goL]; exact hlt)
        obtain ⟨b2, o2, y, e2, hc2, HY⟩ := hy.at_ (k := k) (by rw [length_waL]; exact hlt)
        obtain ⟨b3, o3, z, e3, hc3, HZ⟩ := h0.at_ hlt
        subst e1 e2 e3
        have hx' := gt_of_get HX.out
        have hy' := gt_of_get HY.out
        have hz' := gt_of_get HZ.out
        rw [gt_goL hlt] at hx'
        rw [gt_waL hlt] at hy'
        have p0 : 0 ≤ p ∧ p ≤ 600000 := by rw [hp]; exact wa_bd v r0 hk
        have y0 : 0 ≤ y ∧ y ≤ 600000 := by rw [← hy']; exact wa_bd v r0 hlt
        have x0 : 0 ≤ x ∧ x ≤ n := by rw [← hx']; exact go_bd v r0 hlt
        have z0 : 0 ≤ z ∧ z ≤ 10000 := by rw [← hz']; exact ⟨v.lo k hlt, v.hi k hlt⟩
        have hs : p + z = x + y := by rw [hp, ← hz', ← hx', ← hy', goV]; omega
        have hm : x = min n (p + z) := by rw [hp, ← hz', ← hx', go_min]
        have HN : Hid (waV l0 n (k + 1) = y) := Lib.hid hy'
        obtain ⟨pa, pb⟩ := p0
        obtain ⟨ya, yb⟩ := y0
        obtain ⟨xa, xb⟩ := x0
        obtain ⟨za, zb⟩ := z0
        have i1 : (k : Int) < (l0.length : Int) := by omega
        have t1 : (p + z != x + y) = false := by simp [hs]
        have t2 : decide (n < x) = false := decide_eq_false (by omega)
        have t3 : decide (y < 0) = false := decide_eq_false (by omega)
        have t4 : decide (x < 0) = false := decide_eq_false (by omega)
        have s1 : IntKind.i64.wrap (p + z) = p + z := IntWalk.i64_in _ ⟨by omega, by omega⟩
        have s2 : IntKind.i64.wrap (x + y) = x + y := IntWalk.i64_in _ ⟨by omega, by omega⟩
        clear hx' hy' hz' hp
        by_cases hy0 : 0 < y
        · have t5 : decide (0 < y) = true := decide_eq_true hy0
          have t6 : (x != n) = false := by have : x = n := by omega
                                           simp [this]
          clear hs hm hy0
          go_wp2
          go_quiet (fail)
          go_wp2
          go_roundw
          case rel => exact ⟨k + 1, nd + nq, by omega, by go_num, by rw [HN.out], by simp [World.drewN, Nat.add_assoc]⟩
          case measure => simp [intOf]; omega
        · have t5 : decide (0 < y) = false := decide_eq_false hy0
          clear hs hm hy0
          go_wp2
          go_quiet (fail)
          go_wp2
          go_roundw
          case rel => exact ⟨k + 1, nd + nq, by omega, by go_num, by rw [HN.out], by simp [World.drewN, Nat.add_assoc]⟩
          case measure => simp [intOf]; omega
      · go_wp2
        go_ret
        exact ⟨rfl, below_trans hb (below_of_drewN rfl)⟩
  · have e1 : (linE l0 n != 0) = true := by simp [hE]
    go_enter Try.func9, Try.ntmps9
    go_wp2_with fail
    refine (lrun_yes _ [1, 5] [1, 3] [0, 2] _ 2 _ 3 _ (Lib.hid (by decide)) (Lib.hid (by decide)) (Lib.hid (by decide)) (by exact Ints.lit _ [1, 5] _ _ rfl (by decide)) rfl rfl).mono ?_
    rintro e w1 ⟨Ax, cx, Ay, cy, rfl, hx, hy, kx, ky, bw1⟩
    replace bw1 := below_of1 bw1
    replace h0 := h0.below bw1
    replace hb := below_trans hb bw1
    clear bw1
    go_wp2_with fail
    refine (equal_at Ax _ [1, 3] [1, 3] _ _ _ _ _ (by exact Ints.alloc hx _) (by exact Ints.lit _ [1, 3] _ _ rfl (by decide)) rfl rfl).mono ?_
    rintro e w2 ⟨rfl, nw2, hww2⟩
    have bw2 := below_of_drewN hww2
    clear hww2
    replace bw2 := below_of1 bw2
    replace h0 := h0.below bw2
    replace hy := hy.below bw2
    replace hb := below_trans hb bw2
    clear bw2
    rw [eqB_true rfl]
    go_wp2_with fail
    refine (equal_at Ay _ [0, 2] [0, 2] _ _ _ _ _ (by exact Ints.alloc hy _) (by exact Ints.lit _ [0, 2] _ _ rfl (by decide)) rfl rfl).mono ?_
    rintro e w3 ⟨rfl, nw3, hww3⟩
    have bw3 := below_of_drewN hww3
    clear hww3
    replace bw3 := below_of1 bw3
    replace h0 := h0.below bw3
    replace hb := below_trans hb bw3
    clear bw3
    rw [eqB_true rfl]
    clear hx hy kx ky
    go_wp2_with fail
    refine (lrun_no a0 l0 c0 n _ hE h0).mono ?_
    rintro e w4 ⟨Ax, cx, Ay, cy, rfl, bx⟩
    replace h0 := h0.below bx
    replace hb := below_trans hb bx
    clear bx
    go_wp2
    go_ret
    exact ⟨rfl, hb⟩

end Go.Proofs.Ytifmefachdfmjaa
