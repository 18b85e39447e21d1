
/-
  The walk of the law TurnsShort.
-/
import Derived.Test.YthjeokdabdjhfaaTurnsE
import Derived.Test.YthjeokdabdjhfaaTopA
namespace Go.Proofs.Ythjeokdabdjhfaa
set_option linter.all false
open Go.RowKit Go.Shelf


theorem max_ge {z : List Int} {i : Nat} (h : i < z.length) : gt z i ≤ maxTo z (z.length - 1) := by
  by_cases c : gt z i ≤ maxTo z (z.length - 1)
  · exact c
  · exact absurd ((maxTo_iff z (z.length - 1) (maxTo z (z.length - 1))).2 ⟨i, by omega, by omega⟩) (by omega)
theorem max_le {z : List Int} {B : Int} (hp : 0 < z.length) (h : ∀ i, i < z.length → gt z i ≤ B) : maxTo z (z.length - 1) ≤ B := by
  by_cases c : B < maxTo z (z.length - 1)
  · obtain ⟨i, hi, hlt⟩ := (maxTo_iff _ _ _).1 c
    have := h i (by omega)
    omega
  · omega
set_option maxRecDepth 100000 in
set_option maxHeartbeats 3200000 in
theorem walk_TurnsShort (a0 : Option Addr) (c0 : Nat) (l0 : List Fw) (m : Int) (w : World)
    (h0 : Fls w a0 l0) (k0 : l0.length ≤ c0) (_hm : (Lit.int .i64 m).wf = true) :
    Calls Try.prog 5 #[.slice a0 l0.length c0, .int .i64 m] w fun e w' => e = .returned (.bool true) ∧ Below w.heap.size w w' := by
  have hb : Below w.heap.size w w := Below.refl _ _
  clear _hm
  obtain ⟨p, hp, p1⟩ := wi_nat m 61 (by omega)
  have HP := Lib.hid hp
  clear hp
  have LF := Lib.hid (length_fls l0)
  go_enter Try.func5, Try.ntmps5
  go_wp2_with fail
  refine (flow_any 2 _ _ _ _).mono ?_
  rintro e w1 ⟨rfl, bw1⟩
  have zw1 := Ints.below (l := [3,1]) (Ints.lit _ [3,1] _ _ rfl (by decide)) bw1
  replace bw1 := below_of1 bw1
  replace h0 := h0.below bw1
  replace hb := below_trans hb bw1
  go_wp2_with fail
  refine (aft_at _ [⟨2, _, _, [3,1]⟩] [0] _ _ 1 _ _ (by exact Fls.lit1 _ _ _ _ _ [3,1] _ zw1 rfl (by decide)) (Lib.hid (by show flE [⟨2, [3,1]⟩] = 0; decide)) (by omega) (Lib.hid (by show aftL [⟨2, [3,1]⟩] 1 = [0]; decide)) rfl rfl).mono ?_
  rintro e w2 ⟨Ax, cx, rfl, ox, bw2⟩
  replace bw2 := below_of1 bw2
  replace h0 := h0.below bw2
  replace hb := below_trans hb bw2
  have hx := Ints.of_own ox
  clear bw2 ox
  go_wp2_with fail
  refine (equal_at Ax _ [0] [0] _ _ _ _ _ (by exact Ints.alloc hx _) (by exact Ints.lit _ [0] _ _ rfl (by decide)) rfl rfl).mono ?_
  rintro e w3 ⟨rfl, nw3, hww3⟩
  have bw3 := below_of_drewN hww3
  clear hww3
  replace bw3 := below_of1 bw3
  replace h0 := h0.below bw3
  replace hb := below_trans hb bw3
  clear bw3
  rw [eqB_true rfl]
  clear hx zw1 bw1
  go_wp2_with fail
  refine (flow_any 2 _ _ _ _).mono ?_
  rintro e w4 ⟨rfl, bw4⟩
  have zw4 := Ints.below (l := [3,1]) (Ints.lit _ [3,1] _ _ rfl (by decide)) bw4
  replace bw4 := below_of1 bw4
  replace h0 := h0.below bw4
  replace hb := below_trans hb bw4
  go_wp2_with fail
  refine (aft_at _ [⟨2, _, _, [3,1]⟩] [4] _ _ 2 _ _ (by exact Fls.lit1 _ _ _ _ _ [3,1] _ zw4 rfl (by decide)) (Lib.hid (by show flE [⟨2, [3,1]⟩] = 0; decide)) (by omega) (Lib.hid (by show aftL [⟨2, [3,1]⟩] 2 = [4]; decide)) rfl rfl).mono ?_
  rintro e w5 ⟨Ax, cx, rfl, ox, bw5⟩
  replace bw5 := below_of1 bw5
  replace h0 := h0.below bw5
  replace hb := below_trans hb bw5
  have hx := Ints.of_own ox
  clear bw5 ox
  go_wp2_with fail
  refine (equal_at Ax _ [4] [4] _ _ _ _ _ (by exact Ints.alloc hx _) (by exact Ints.lit _ [4] _ _ rfl (by decide)) rfl rfl).mono ?_
  rintro e w6 ⟨rfl, nw6, hww6⟩
  have bw6 := below_of_drewN hww6
  clear hww6
  replace bw6 := below_of1 bw6
  replace h0 := h0.below bw6
  replace hb := below_trans hb bw6
  clear bw6
  rw [eqB_true rfl]
  clear hx zw4 bw4
  go_wp2_with fail
  refine (within_any m 61 _ (by omega) (by omega)).mono ?_
  rintro e w' ⟨rfl, rfl⟩
  rw [HP.out]
  by_cases hE : flE (fls l0) = 0
  · have v := flE_iff.1 hE
    have HE := Lib.hid hE
    have h8 : l0.length ≤ 8 := by have := v.le; rwa [length_fls] at this
    clear hE
    go_wp2_with fail
    refine (aft_at a0 l0 (aftL (fls l0) p) _ c0 p _ _ h0 HE (by omega) (Lib.hid rfl) rfl rfl).mono ?_
    rintro e w7 ⟨Ax, cx, rfl, ox, bw7⟩
    replace h0 := h0.below bw7
    replace hb := below_trans hb bw7
    have hx := Ints.of_own ox
    clear bw7 ox
    rw [length_aftL, LF.out]
    go_wp2
    go_loopw [72] (fun i wr => ∃ k : Nat, k ≤ l0.length ∧ i = .int .i64 k ∧ Below w7.heap.size w7 wr) (fun i _ => l0.length - (intOf i).toNat)
    case atStart => exact ⟨0, Nat.zero_le _, rfl, Below.refl _ _⟩
    case round =>
      obtain ⟨k, hk, rfl, hbel⟩ := hrel
      by_cases hlt : k < l0.length
      · obtain ⟨bb, off, f, hA, hbl, d0, d1, iz, kz, HF⟩ := (h0.below hbel).get hlt
        subst hA
        obtain ⟨b1, o1, y, e1, hc1, HY⟩ := (hx.below hbel).at_ (k := k) (by rw [length_aftL, LF.out]; exact hlt)
        subst e1
        have ok : FlwOk f.f := by have := v.ok k (by rw [LF.out]; exact hlt); rwa [flw_of HF.out] at this
        have hy := gt_of_get HY.out
        rw [gt_aftL (by rw [LF.out]; exact hlt), flw_of HF.out] at hy
        replace hy : sumV f.z (cgN f.z (p * f.q)) = y := hy
        have sz : Sz f.z := ok.sz
        have zl := sz.le
        have q0 : 1 ≤ f.q := ok.q0
        have q1 : f.q ≤ 1000 := ok.q1
        obtain ⟨P, hP⟩ : ∃ P, P = (p : Int) * f.q := ⟨_, rfl⟩
        rw [← hP] at hy
        have P0 : 0 ≤ P := by rw [hP]; exact Int.mul_nonneg (by omega) (by omega)
        have P1 : P ≤ 61000 := by rw [hP]; have := Int.mul_le_mul (show (p : Int) ≤ 61 by omega) q1 (by omega) (by omega); omega
        have yP : y ≤ P := by rw [← hy]; exact cg_ok P0 _
        obtain ⟨Z, hZ⟩ : ∃ Z, Z = sumV f.z f.z.length := ⟨_, rfl⟩
        have Z0 := sz.bd f.z.length (Nat.le_refl _)
        rw [← hZ] at Z0
        obtain ⟨Za, Zb⟩ := Z0
        have yZ : y ≤ Z := by rw [← hy, hZ]; exact sz.mono (cg_le _ _ _) (Nat.le_refl _)
        have y0 : 0 ≤ y := by rw [← hy]; exact (sz.bd _ (cg_le _ _ _)).1
        have hS : y < Z → 0 < f.z.length ∧ P - maxTo f.z (f.z.length - 1) < y := fun hq => by
          have c1 : cgN f.z P < f.z.length := by
            have : cgN f.z P ≤ f.z.length := cg_le _ _ _
            by_cases c : cgN f.z P = f.z.length
            · rw [c, ← hZ] at hy; omega
            · omega
          exact ⟨by omega, by rw [← hy]; exact cg_short P0 (fun i hi => max_ge hi) c1⟩
        have HSS := Lib.hid hS
        have HZ := Lib.hid hZ
        obtain ⟨W, hW⟩ : ∃ W, W = wr.alloc (.cells #[.int .i64 f.q, .slice f.a f.z.length f.c] 36) := ⟨_, rfl⟩
        have hWb : Below wr.heap.size wr W := by rw [hW]; exact (Below.refl _ _).alloc (Nat.le_refl _) _
        have izW := iz.below hWb
        have t0 : W.cell? ⟨wr.heap.size, 0, none⟩ = some (.int .i64 f.q) := by rw [hW]; exact (two_read (Blk.new _ _ _)).1
        have t1 : W.cell? ⟨wr.heap.size, 1, none⟩ = some (.slice f.a f.z.length f.c) := by rw [hW]; exact (two_read (Blk.new _ _ _)).2
        have hcW := (hWb.cell (p := ⟨b1, o1 + k, none⟩) (cell_lt hc1)).trans hc1
        have hbW := below_trans hbel hWb
        have HW := Lib.hid hW
        have sP : IntKind.i64.wrap ((p : Int) * f.q) = P := by rw [← hP]; exact IntWalk.i64_in _ ⟨by omega, by omega⟩
        have SP := Lib.hid sP
        have i1 : (k : Int) < (l0.length : Int) := by omega
        clear hy hP hZ hS hW hWb iz hc1 HY HF sP
        go_wp2
        rw [← HW.out]
        go_loop [13, 80] (fun s i => ∃ j : Nat, j ≤ f.z.length ∧ i = .int .i64 j ∧ s = .int .i64 (sumV f.z j)) (fun _ i => f.z.length - (intOf i).toNat)
        case atStart => exact ⟨0, Nat.zero_le _, rfl, rfl⟩
        case round =>
          obtain ⟨j, hj, rfl, rfl⟩ := hrel
          by_cases hjl : j < f.z.length
          · obtain ⟨b2, o2, z, e2, hc2, HZ2⟩ := izW.at_ (k := j) hjl
            have hz := gt_of_get HZ2.out
            have z0 : 1 ≤ z := by rw [← hz]; exact sz.lo j hjl
            have z1 : z ≤ 1000 := by rw [← hz]; exact sz.hi j hjl
            obtain ⟨u, hu⟩ : ∃ u, u = sumV f.z j := ⟨_, rfl⟩
            have ub := sz.bd j hj
            rw [← hu] at ub
            obtain ⟨ua, ub⟩ := ub
            have HN : Hid (sumV f.z (j + 1) = u + z) := Lib.hid (by rw [sumV, hz, hu])
            rw [← hu]
            have i2 : (j : Int) < (f.z.length : Int) := by omega
            clear hz hu
            rw [e2]
            go_wp2
            go_round
            case rel => exact ⟨j + 1, by omega, by go_num, by rw [HN.out]⟩
            case measure => simp [intOf]; omega
          · obtain rfl : j = f.z.length := by omega
            rw [← HZ.out]
            have s1 := SP.out
            have u1 : decide (P < y) = false := decide_eq_false (by omega)
            have u2 : decide (Z < y) = false := decide_eq_false (by omega)
            by_cases hq : y < Z
            · have u3 : decide (y < Z) = true := decide_eq_true hq
              obtain ⟨lz, hlz⟩ := HSS.out hq
              obtain ⟨M, hM⟩ : ∃ M, M = maxTo f.z (f.z.length - 1) := ⟨_, rfl⟩
              have M1 : M ≤ 1000 := by rw [hM]; exact max_le lz (fun i hi => sz.hi i hi)
              have M0 : 1 ≤ M := by rw [hM]; exact Int.le_trans (sz.lo 0 lz) (max_ge lz)
              rw [← hM] at hlz
              have HM : Hid (maxTo f.z (f.z.length - 1) = M) := Lib.hid hM.symm
              have u4 : decide (y ≤ P - M) = false := decide_eq_false (by omega)
              clear hM
              go_wp2
              go_quiet (fail)
              obtain ⟨W2, hW2⟩ : ∃ W2, W2 = W.drewN nq := ⟨_, rfl⟩
              replace izW : Ints W2 f.a f.z := by rw [hW2]; exact izW
              replace t0 : W2.cell? ⟨wr.heap.size, 0, none⟩ = some (.int .i64 f.q) := by rw [hW2]; exact t0
              replace t1 : W2.cell? ⟨wr.heap.size, 1, none⟩ = some (.slice f.a f.z.length f.c) := by rw [hW2]; exact t1
              replace hcW : W2.cell? ⟨b1, o1 + k, none⟩ = some (.int .i64 y) := by rw [hW2]; exact hcW
              replace hbW := below_trans hbW (below_of_drewN hW2)
              rw [← hW2]
              clear hW2
              go_wp2
              go_quiet ((go_at_call 19; exact Calls.quiet_of_same (smax_yes f.a f.z _ _ M _ HM (izW.drewN _) lz rfl)))
              go_wp2
              go_roundw
              case rel => exact ⟨k + 1, by omega, by go_num, below_trans hbW (below_of_drewN rfl)⟩
              case measure => simp [intOf]; omega
            · have u3 : decide (y < Z) = false := decide_eq_false hq
              go_wp2
              go_quiet (fail)
              obtain ⟨na, hna⟩ : ∃ na, na = nq := ⟨_, rfl⟩
              rw [← hna]
              clear hna
              go_wp2
              go_quiet (fail)
              go_wp2
              go_roundw
              case rel => exact ⟨k + 1, by omega, by go_num, below_trans hbW (below_of_drewN rfl)⟩
              case measure => simp [intOf]; omega
      · go_wp2
        go_ret
        exact ⟨rfl, below_trans hb hbel⟩
  · have e1 : (flE (fls l0) != 0) = true := by simp [hE]
    have e2 : (flE (fls l0) == flE (fls l0)) = true := by simp
    go_wp2_with fail
    refine (aft_no a0 l0 c0 p _ h0 hE).mono ?_
    rintro e w7 ⟨Ax, cx, rfl, ox, bw7⟩
    replace h0 := h0.below bw7
    replace hb := below_trans hb bw7
    have hx := Ints.of_own ox
    clear bw7 ox
    go_wp2_with fail
    refine (tcheck_any a0 l0 c0 _ h0).mono ?_
    rintro e w8 ⟨rfl, b8⟩
    replace hb := below_trans hb b8
    clear b8
    go_wp2
    go_ret
    exact ⟨rfl, hb⟩

end Go.Proofs.Ythjeokdabdjhfaa
