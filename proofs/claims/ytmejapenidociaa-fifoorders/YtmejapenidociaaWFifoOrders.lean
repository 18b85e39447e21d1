
/-
  The walk of the law FifoOrders.
-/
import Derived.Test.YtmejapenidociaaFifoA
import Derived.Test.YtmejapenidociaaLineQ
namespace Go.Proofs.Ytmejapenidociaa
set_option linter.all false
open Go.RowKit Go.Shelf


/-- What the packet j ahead of the i-th says. -/
def saD (l : List Pk) (i j : Nat) : Int := (pk l (i - j)).at_ + suD l i (j + 1)

set_option maxRecDepth 100000 in
set_option maxHeartbeats 6400000 in
theorem walk_FifoOrders (a0 : Option Addr) (c0 : Nat) (l0 : List Pk) (w : World) (h0 : Pks w a0 l0) (_k0 : l0.length ≤ c0) :
    Calls Try.prog 5 #[.slice a0 l0.length c0] w fun e w' => e = .returned (.bool true) ∧ Below w.heap.size w w' := by
  have hb : Below w.heap.size w w := Below.refl _ _
  clear _k0
  by_cases hE : pksE l0 = 0
  · have q := qu_of hE
    have HE := Lib.hid hE
    have hle := q.le
    clear hE
    go_enter Try.func5, Try.ntmps5
    go_wp2_with fail
    refine (frun_yes _ [⟨5, 1, 0⟩] [6] _ 1 _ _ (Lib.hid (by decide)) (Lib.hid (by decide)) (by exact Pks.lit _ [⟨5, 1, 0⟩] _ _ rfl (by decide)) rfl rfl).mono ?_
    rintro e w1 ⟨Ax, cx, rfl, hx, kx, bw1⟩
    replace bw1 := below_of1 bw1
    replace h0 := h0.below bw1
    replace hb := below_trans hb bw1
    clear bw1
    go_wp2_with fail
    refine (equal_at Ax _ [6] [6] _ _ _ _ _ (by exact Ints.alloc hx _) (by exact Ints.lit _ [6] _ _ rfl (by decide)) rfl rfl).mono ?_
    rintro e w2 ⟨rfl, nw2, hww2⟩
    have bw2 := below_of_drewN hww2
    clear hww2
    replace bw2 := below_of1 bw2
    replace h0 := h0.below bw2
    replace hb := below_trans hb bw2
    clear bw2
    rw [eqB_true rfl]
    clear hx kx
    go_wp2_with fail
    refine (frun_yes a0 l0 (dnL l0) _ l0.length c0 _ HE (Lib.hid rfl) h0 rfl rfl).mono ?_
    rintro e w3 ⟨Ax, cx, rfl, hx, kx, bw3⟩
    replace h0 := h0.below bw3
    replace hb := below_trans hb bw3
    clear bw3
    go_wp2
    go_loopw [49] (fun v wr => ∃ i : Nat, i ≤ l0.length ∧ v = .int .i64 i ∧ Below w3.heap.size w3 wr) (fun v _ => l0.length - (intOf v).toNat)
    case atStart => exact ⟨0, Nat.zero_le _, rfl, Below.refl _ _⟩
    case round =>
      obtain ⟨i, hi, rfl, hbel⟩ := hrel
      by_cases hlt : i < l0.length
      · obtain ⟨bb, off, p, rfl, hbl, g0, g1, g2, HP⟩ := (h0.below hbel).get hlt
        have hK := pk_of HP.out
        have ok := q.ok i hlt
        rw [hK] at ok
        have pa0 := ok.a0
        have pa1 := ok.a1
        have pz0 := ok.s0
        have pz1 := ok.s1
        have i1 : (i : Int) < (l0.length : Int) := by omega
        obtain ⟨W, hW⟩ : ∃ W, W = wr.alloc (.cells #[.int .i64 p.at_, .int .i64 p.size, .int .i64 p.flow] 32) := ⟨_, rfl⟩
        have Bp : Blk W wr.heap.size 32 #[.int .i64 p.at_, .int .i64 p.size, .int .i64 p.flow] := by rw [hW]; exact Blk.new _ _ _
        have hbW : Below wr.heap.size wr W := by rw [hW]; exact alloc_below _ _
        have HBW : Hid (Below w3.heap.size w3 W) := Lib.hid (below_trans hbel hbW)
        have hpW := h0.below HBW.out
        have hxW := hx.below HBW.out
        obtain ⟨u0, u1, u2⟩ := three_read Bp
        obtain ⟨b1, o1, y, e1, hc1, HY⟩ := hxW.at_ (k := i) (by rw [length_dnL]; exact hlt)
        have hy := gt_of_get HY.out
        rw [gt_dnL hlt] at hy
        have HYV : Hid (dnV l0 (i + 1) = y) := Lib.hid hy
        have y0 : 0 ≤ y ∧ y ≤ 70000 := by rw [← hy]; have := dn_bd q (i + 1) (by omega); omega
        obtain ⟨ya, yb⟩ := y0
        have t1 : decide (y < p.at_ + p.size) = false := decide_eq_false (by rw [← hy]; have := dn_at l0 i; rw [hK] at this; omega)
        have w1' : IntKind.i64.wrap (p.at_ + p.size) = p.at_ + p.size := IntWalk.i64_in _ ⟨by omega, by omega⟩
        have HW := Lib.hid hW
        by_cases hi0 : 0 < i
        · obtain ⟨b2, o2, z, e2, hc2, HZ⟩ := hxW.at_ (k := i - 1) (by rw [length_dnL]; omega)
          subst e1
          obtain ⟨rfl, rfl⟩ : b2 = b1 ∧ o2 = o1 := by injection e2 with e1; injection e1 with e1 e2; exact ⟨e1.symm, e2.symm⟩
          have hz := gt_of_get HZ.out
          rw [gt_dnL (by omega), show i - 1 + 1 = i by omega] at hz
          have z0 : 0 ≤ z ∧ z ≤ 70000 := by rw [← hz]; have := dn_bd q i (by omega); omega
          obtain ⟨za, zb⟩ := z0
          have t2 : decide ((0 : Int) < (i : Int)) = true := decide_eq_true (by omega)
          have t3 : decide (y < z + p.size) = false := decide_eq_false (by rw [← hy, ← hz]; have := dn_up l0 i; rw [hK] at this; omega)
          obtain ⟨i', hi'⟩ : ∃ i', i' = i - 1 := ⟨_, rfl⟩
          have w2' : IntKind.i64.wrap ((i : Int) - 1) = (i' : Int) := by rw [show (i : Int) - 1 = (i' : Int) by omega]; exact IntWalk.i64_in _ ⟨by omega, by omega⟩
          have w3' : IntKind.i64.wrap (z + p.size) = z + p.size := IntWalk.i64_in _ ⟨by omega, by omega⟩
          have w4' : (i : Int) - 1 = (i' : Int) := by omega
          have i4 : (i' : Int) < (l0.length : Int) := by omega
          rw [← hi'] at hc2
          clear hy hz hK ok e2 hi' hW Bp HZ
          go_wp2
          rw [← HW.out]
          clear g0 g1 g2
          go_quiet (fail)
          go_wp2
          go_loopw [9, 10, 11] (fun s h k wi => ∃ m nd : Nat, m ≤ i + 1 ∧ k = .int .i64 ((i : Int) - (m : Int)) ∧ s = .int .i64 (suD l0 i m) ∧ h = .bool (hiB (saD l0 i) y m) ∧ wi = W.drewN nd) (fun _ _ k _ => (intOf k + 1).toNat)
          case atStart => exact ⟨0, nq, by omega, by simp, rfl, rfl, rfl⟩
          case round =>
            obtain ⟨m, nd, hm, rfl, rfl, rfl, rfl⟩ := hrel
            obtain ⟨s, hs⟩ : ∃ s, s = suD l0 i m := ⟨_, rfl⟩
            obtain ⟨H, hH⟩ : ∃ H, H = hiB (saD l0 i) y m := ⟨_, rfl⟩
            have s0 : 0 ≤ s ∧ s ≤ 61000 := by rw [hs]; have := su_bd q hlt m; omega
            obtain ⟨sa, sb⟩ := s0
            rw [← hs, ← hH]
            by_cases hmi : m ≤ i
            · obtain ⟨j, hj⟩ : ∃ j, j = i - m := ⟨_, rfl⟩
              have ej : (i : Int) - (m : Int) = (j : Int) := by omega
              have jl : j < l0.length := by omega
              obtain ⟨bb', off', r, e5, hbl', d0, d1, d2, HR⟩ := hpW.get jl
              obtain ⟨rfl, rfl⟩ : bb' = bb ∧ off' = off := by injection e5 with e1; injection e1 with e1 e2; exact ⟨e1.symm, e2.symm⟩
              clear e5
              have hK := pk_of HR.out
              have ok := q.ok j jl
              rw [hK] at ok
              have a0 := ok.a0
              have a1 := ok.a1
              have z0 := ok.s0
              have z1 := ok.s1
              have HS : Hid (suD l0 i (m + 1) = s + r.size) := Lib.hid (by rw [suD, ← hs, szV, ← hj, hK])
              have hD : saD l0 i m = r.at_ + (s + r.size) := by rw [saD, HS.out, ← hj, hK]
              have HHB : Hid (hiB (saD l0 i) y (m + 1) = (H || (r.at_ + (s + r.size) == y))) := Lib.hid (by rw [hiB, ← hH, hD])
              have hDy : r.at_ + (s + r.size) ≤ y := by
                rw [← hD, saD, su_sm m (by omega), ← HYV.out]
                have := dn_le l0 (k := i - m) m
                rw [show i - m + m + 1 = i + 1 by omega] at this
                exact this
              have t5 : decide (y < r.at_ + (s + r.size)) = false := decide_eq_false (by omega)
              have i2 : (j : Int) < (l0.length : Int) := by omega
              have i3 : (0 : Int) ≤ (j : Int) := by omega
              have w1' : IntKind.i64.wrap (r.at_ + (s + r.size)) = r.at_ + (s + r.size) := IntWalk.i64_in _ ⟨by omega, by omega⟩
              have EJ := Lib.hid ej
              rw [ej]
              clear hs hH hj ej hK ok hD hDy
              cases H
              · by_cases hxy : y = r.at_ + (s + r.size)
                · have t6 : (y == r.at_ + (s + r.size)) = true := by simp [hxy]
                  have HH : Hid (hiB (saD l0 i) y (m + 1) = true) := Lib.hid (by rw [HHB.out, hxy]; simp)
                  clear hxy HHB
                  go_wp2
                  go_quiet (fail)
                  obtain ⟨na, hna⟩ : ∃ na, na = nq := ⟨_, rfl⟩
                  rw [← hna]
                  clear hna
                  go_wp2
                  go_quiet (fail)
                  go_wp2
                  go_roundw
                  case rel => exact ⟨m + 1, nd + na + nq, by omega, by congr 1; have := EJ.out; omega, by rw [HS.out], by rw [HH.out], by simp [World.drewN, Nat.add_assoc]⟩
                  case measure => simp [intOf]
                · have t6 : (y == r.at_ + (s + r.size)) = false := by simp [hxy]
                  have HH : Hid (hiB (saD l0 i) y (m + 1) = false) := Lib.hid (by rw [HHB.out, beq_eq_false_iff_ne.2 (Ne.symm hxy)]; rfl)
                  clear hxy HHB
                  go_wp2
                  go_quiet (fail)
                  obtain ⟨na, hna⟩ : ∃ na, na = nq := ⟨_, rfl⟩
                  rw [← hna]
                  clear hna
                  go_wp2
                  go_quiet (fail)
                  go_wp2
                  go_roundw
                  case rel => exact ⟨m + 1, nd + na + nq, by omega, by congr 1; have := EJ.out; omega, by rw [HS.out], by rw [HH.out], by simp [World.drewN, Nat.add_assoc]⟩
                  case measure => simp [intOf]
              · have HH : Hid (hiB (saD l0 i) y (m + 1) = true) := Lib.hid (by rw [HHB.out]; rfl)
                clear HHB
                go_wp2
                go_quiet (fail)
                obtain ⟨na, hna⟩ : ∃ na, na = nq := ⟨_, rfl⟩
                rw [← hna]
                clear hna
                go_wp2
                go_quiet (fail)
                go_wp2
                go_roundw
                case rel => exact ⟨m + 1, nd + na + nq, by omega, by congr 1; have := EJ.out; omega, by rw [HS.out], by rw [HH.out], by simp [World.drewN, Nat.add_assoc]⟩
                case measure => simp [intOf]
            · obtain rfl : m = i + 1 := by omega
              have ej : (i : Int) - ((i + 1 : Nat) : Int) = -1 := by omega
              rw [ej]
              obtain rfl : H = true := by
                rw [hH]
                obtain ⟨k, m, e, hk⟩ := dn_hit q i hlt
                refine hi_at (i := m) ?_ _ (by omega)
                rw [saD, su_sm m (by omega), show i - m = k by omega, ← hk, HYV.out]
              clear hs hH ej
              go_wp2
              go_roundw
              case rel => exact ⟨i + 1, by omega, by go_num, below_trans HBW.out (below_of_drewN rfl)⟩
              case measure => simp [intOf]; omega
        · have t2 : decide ((0 : Int) < (i : Int)) = false := decide_eq_false (by omega)
          subst e1
          clear hy hK ok hW Bp
          go_wp2
          rw [← HW.out]
          clear g0 g1 g2
          go_quiet (fail)
          go_wp2
          go_loopw [9, 10, 11] (fun s h k wi => ∃ m nd : Nat, m ≤ i + 1 ∧ k = .int .i64 ((i : Int) - (m : Int)) ∧ s = .int .i64 (suD l0 i m) ∧ h = .bool (hiB (saD l0 i) y m) ∧ wi = W.drewN nd) (fun _ _ k _ => (intOf k + 1).toNat)
          case atStart => exact ⟨0, nq, by omega, by simp, rfl, rfl, rfl⟩
          case round =>
            obtain ⟨m, nd, hm, rfl, rfl, rfl, rfl⟩ := hrel
            obtain ⟨s, hs⟩ : ∃ s, s = suD l0 i m := ⟨_, rfl⟩
            obtain ⟨H, hH⟩ : ∃ H, H = hiB (saD l0 i) y m := ⟨_, rfl⟩
            have s0 : 0 ≤ s ∧ s ≤ 61000 := by rw [hs]; have := su_bd q hlt m; omega
            obtain ⟨sa, sb⟩ := s0
            rw [← hs, ← hH]
            by_cases hmi : m ≤ i
            · obtain ⟨j, hj⟩ : ∃ j, j = i - m := ⟨_, rfl⟩
              have ej : (i : Int) - (m : Int) = (j : Int) := by omega
              have jl : j < l0.length := by omega
              obtain ⟨bb', off', r, e5, hbl', d0, d1, d2, HR⟩ := hpW.get jl
              obtain ⟨rfl, rfl⟩ : bb' = bb ∧ off' = off := by injection e5 with e1; injection e1 with e1 e2; exact ⟨e1.symm, e2.symm⟩
              clear e5
              have hK := pk_of HR.out
              have ok := q.ok j jl
              rw [hK] at ok
              have a0 := ok.a0
              have a1 := ok.a1
              have z0 := ok.s0
              have z1 := ok.s1
              have HS : Hid (suD l0 i (m + 1) = s + r.size) := Lib.hid (by rw [suD, ← hs, szV, ← hj, hK])
              have hD : saD l0 i m = r.at_ + (s + r.size) := by rw [saD, HS.out, ← hj, hK]
              have HHB : Hid (hiB (saD l0 i) y (m + 1) = (H || (r.at_ + (s + r.size) == y))) := Lib.hid (by rw [hiB, ← hH, hD])
              have hDy : r.at_ + (s + r.size) ≤ y := by
                rw [← hD, saD, su_sm m (by omega), ← HYV.out]
                have := dn_le l0 (k := i - m) m
                rw [show i - m + m + 1 = i + 1 by omega] at this
                exact this
              have t5 : decide (y < r.at_ + (s + r.size)) = false := decide_eq_false (by omega)
              have i2 : (j : Int) < (l0.length : Int) := by omega
              have i3 : (0 : Int) ≤ (j : Int) := by omega
              have w1' : IntKind.i64.wrap (r.at_ + (s + r.size)) = r.at_ + (s + r.size) := IntWalk.i64_in _ ⟨by omega, by omega⟩
              have EJ := Lib.hid ej
              rw [ej]
              clear hs hH hj ej hK ok hD hDy
              cases H
              · by_cases hxy : y = r.at_ + (s + r.size)
                · have t6 : (y == r.at_ + (s + r.size)) = true := by simp [hxy]
                  have HH : Hid (hiB (saD l0 i) y (m + 1) = true) := Lib.hid (by rw [HHB.out, hxy]; simp)
                  clear hxy HHB
                  go_wp2
                  go_quiet (fail)
                  obtain ⟨na, hna⟩ : ∃ na, na = nq := ⟨_, rfl⟩
                  rw [← hna]
                  clear hna
                  go_wp2
                  go_quiet (fail)
                  go_wp2
                  go_roundw
                  case rel => exact ⟨m + 1, nd + na + nq, by omega, by congr 1; have := EJ.out; omega, by rw [HS.out], by rw [HH.out], by simp [World.drewN, Nat.add_assoc]⟩
                  case measure => simp [intOf]
                · have t6 : (y == r.at_ + (s + r.size)) = false := by simp [hxy]
                  have HH : Hid (hiB (saD l0 i) y (m + 1) = false) := Lib.hid (by rw [HHB.out, beq_eq_false_iff_ne.2 (Ne.symm hxy)]; rfl)
                  clear hxy HHB
                  go_wp2
                  go_quiet (fail)
                  obtain ⟨na, hna⟩ : ∃ na, na = nq := ⟨_, rfl⟩
                  rw [← hna]
                  clear hna
                  go_wp2
                  go_quiet (fail)
                  go_wp2
                  go_roundw
                  case rel => exact ⟨m + 1, nd + na + nq, by omega, by congr 1; have := EJ.out; omega, by rw [HS.out], by rw [HH.out], by simp [World.drewN, Nat.add_assoc]⟩
                  case measure => simp [intOf]
              · have HH : Hid (hiB (saD l0 i) y (m + 1) = true) := Lib.hid (by rw [HHB.out]; rfl)
                clear HHB
                go_wp2
                go_quiet (fail)
                obtain ⟨na, hna⟩ : ∃ na, na = nq := ⟨_, rfl⟩
                rw [← hna]
                clear hna
                go_wp2
                go_quiet (fail)
                go_wp2
                go_roundw
                case rel => exact ⟨m + 1, nd + na + nq, by omega, by congr 1; have := EJ.out; omega, by rw [HS.out], by rw [HH.out], by simp [World.drewN, Nat.add_assoc]⟩
                case measure => simp [intOf]
            · obtain rfl : m = i + 1 := by omega
              have ej : (i : Int) - ((i + 1 : Nat) : Int) = -1 := by omega
              rw [ej]
              obtain rfl : H = true := by
                rw [hH]
                obtain ⟨k, m, e, hk⟩ := dn_hit q i hlt
                refine hi_at (i := m) ?_ _ (by omega)
                rw [saD, su_sm m (by omega), show i - m = k by omega, ← hk, HYV.out]
              clear hs hH ej
              go_wp2
              go_roundw
              case rel => exact ⟨i + 1, by omega, by go_num, below_trans HBW.out (below_of_drewN rfl)⟩
              case measure => simp [intOf]; omega
      · go_wp2
        go_ret
        exact ⟨rfl, below_trans hb hbel⟩
  · have e1 : (pksE l0 != 0) = true := by simp [hE]
    go_enter Try.func5, Try.ntmps5
    go_wp2_with fail
    refine (frun_yes _ [⟨5, 1, 0⟩] [6] _ 1 _ _ (Lib.hid (by decide)) (Lib.hid (by decide)) (by exact Pks.lit _ [⟨5, 1, 0⟩] _ _ rfl (by decide)) rfl rfl).mono ?_
    rintro e w1 ⟨Ax, cx, rfl, hx, kx, bw1⟩
    replace bw1 := below_of1 bw1
    replace h0 := h0.below bw1
    replace hb := below_trans hb bw1
    clear bw1
    go_wp2_with fail
    refine (equal_at Ax _ [6] [6] _ _ _ _ _ (by exact Ints.alloc hx _) (by exact Ints.lit _ [6] _ _ rfl (by decide)) rfl rfl).mono ?_
    rintro e w2 ⟨rfl, nw2, hww2⟩
    have bw2 := below_of_drewN hww2
    clear hww2
    replace bw2 := below_of1 bw2
    replace h0 := h0.below bw2
    replace hb := below_trans hb bw2
    clear bw2
    rw [eqB_true rfl]
    clear hx kx
    go_wp2_with fail
    refine (frun_no a0 l0 c0 _ hE h0).mono ?_
    rintro e w3 ⟨Ax, cx, rfl, b1⟩
    replace hb := below_trans hb b1
    clear b1
    go_wp2
    go_ret
    exact ⟨rfl, hb⟩

end Go.Proofs.Ytmejapenidociaa
