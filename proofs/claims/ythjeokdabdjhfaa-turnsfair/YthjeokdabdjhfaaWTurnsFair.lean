
/-
  The walk of the law TurnsFair.
-/
import Derived.Test.YthjeokdabdjhfaaTurnsE
import Derived.Test.YthjeokdabdjhfaaTopA
namespace Go.Proofs.Ythjeokdabdjhfaa
set_option linter.all false
open Go.RowKit Go.Shelf


theorem max_ge {z : List Int} {i : Nat} (h : i < z.length) : gt z i ≤ maxTo z (z.length - 1) := by
  by_cases c : gt z i ≤ maxTo z (z.length - 1)
  · exact c
  · exact absurd ((maxTo_iff z (z.length - 1) (maxTo z (z.length - 1))).2 ⟨i, by omega, by omega⟩) (by omega)
theorem max_le {z : List Int} {B : Int} (hp : 0 < z.length) (h : ∀ i, i < z.length → gt z i ≤ B) : maxTo z (z.length - 1) ≤ B := by
  by_cases c : B < maxTo z (z.length - 1)
  · obtain ⟨i, hi, hlt⟩ := (maxTo_iff _ _ _).1 c
    have := h i (by omega)
    omega
  · omega
theorem idx0 (a b : Int) (w : World) : (Instr.index 44 (.agg #[.int .i64 a, .int .i64 b]) (.int .i64 0)).run Try.prog w = .ok (.int .i64 a) w := by kernel_rfl
theorem idx1 (a b : Int) (w : World) : (Instr.index 44 (.agg #[.int .i64 a, .int .i64 b]) (.int .i64 1)).run Try.prog w = .ok (.int .i64 b) w := by kernel_rfl
/-- What is known of one flow. -/
structure Known (f : Fw) (p : Nat) (y : Int) : Prop where
  ok : FlwOk f.f
  is : sumV f.z (cgN f.z ((p : Int) * f.q)) = y
theorem Known.y0 {f : Fw} {p : Nat} {y : Int} (h : Known f p y) : 0 ≤ y ∧ y ≤ 60000 := by
  have sz : Sz f.z := h.ok.sz
  have h1 := sz.bd (cgN f.z ((p : Int) * f.q)) (cg_le _ _ _)
  have h2 : cgN f.z ((p : Int) * f.q) ≤ f.z.length := cg_le _ _ _
  have h3 := sz.le
  rw [h.is] at h1
  omega
theorem Known.short {f : Fw} {p : Nat} {y : Int} (h : Known f p y) (hy : ¬ y = sumV f.z f.z.length) : cgN f.z ((p : Int) * f.q) < f.z.length := by
  have : cgN f.z ((p : Int) * f.q) ≤ f.z.length := cg_le _ _ _
  by_cases c : cgN f.z ((p : Int) * f.q) = f.z.length
  · have e := h.is
    rw [c] at e
    exact absurd e.symm hy
  · omega

set_option maxRecDepth 100000 in
set_option maxHeartbeats 6400000 in
theorem walk_TurnsFair (a0 : Option Addr) (c0 : Nat) (l0 : List Fw) (m n1 n2 : Int) (w : World)
    (h0 : Fls w a0 l0) (k0 : l0.length ≤ c0) (_hm : (Lit.int .i64 m).wf = true) (_h1 : (Lit.int .i64 n1).wf = true) (_h2 : (Lit.int .i64 n2).wf = true) :
    Calls Try.prog 6 #[.slice a0 l0.length c0, .int .i64 m, .int .i64 n1, .int .i64 n2] w fun e w' => e = .returned (.bool true) ∧ Below w.heap.size w w' := by
  have hb : Below w.heap.size w w := Below.refl _ _
  clear _hm _h1 _h2
  obtain ⟨p, hp, p1⟩ := wi_nat m 61 (by omega)
  have HP := Lib.hid hp
  clear hp
  have LF := Lib.hid (length_fls l0)
  go_enter Try.func6, Try.ntmps6
  go_wp2_with fail
  refine (flow_any 2 _ _ _ _).mono ?_
  rintro e w1 ⟨rfl, bw1⟩
  have zw1 := Ints.below (l := [3,1]) (Ints.lit _ [3,1] _ _ rfl (by decide)) bw1
  replace bw1 := below_of1 bw1
  replace h0 := h0.below bw1
  replace hb := below_trans hb bw1
  go_wp2_with fail
  refine (flow_any 1 _ _ _ _).mono ?_
  rintro e w2 ⟨rfl, bw2⟩
  have zw2 := Ints.below (l := [1,1,1]) (Ints.lit _ [1,1,1] _ _ rfl (by decide)) bw2
  replace bw2 := below_of1 bw2
  replace h0 := h0.below bw2
  replace hb := below_trans hb bw2
  replace zw1 := zw1.below bw2
  go_wp2_with fail
  refine (aft_at _ [⟨2, _, _, [3,1]⟩, ⟨1, _, _, [1,1,1]⟩] [4,2] _ _ 2 _ _ (by exact Fls.lit2 _ _ _ _ _ _ _ _ _ [3,1] [1,1,1] _ zw1 rfl (by decide) zw2 rfl (by decide)) (Lib.hid (by show flE [⟨2, [3,1]⟩, ⟨1, [1,1,1]⟩] = 0; decide)) (by omega) (Lib.hid (by show aftL [⟨2, [3,1]⟩, ⟨1, [1,1,1]⟩] 2 = [4,2]; decide)) rfl rfl).mono ?_
  rintro e w3 ⟨Ax, cx, rfl, ox, bw3⟩
  replace bw3 := below_of1 bw3
  replace h0 := h0.below bw3
  replace hb := below_trans hb bw3
  have hx := Ints.of_own ox
  clear bw3 ox
  go_wp2_with fail
  refine (equal_at Ax _ [4,2] [4,2] _ _ _ _ _ (by exact Ints.alloc hx _) (by exact Ints.lit _ [4,2] _ _ rfl (by decide)) rfl rfl).mono ?_
  rintro e we ⟨rfl, nwe, hwwe⟩
  have bwe := below_of_drewN hwwe
  clear hwwe
  replace bwe := below_of1 bwe
  replace h0 := h0.below bwe
  replace hb := below_trans hb bwe
  clear bwe
  rw [eqB_true rfl]
  clear hx zw1 zw2 bw1 bw2
  go_wp2_with fail
  refine (within_any m 61 _ (by omega) (by omega)).mono ?_
  rintro e w' ⟨rfl, rfl⟩
  rw [HP.out]
  by_cases hE : flE (fls l0) = 0
  · have v := flE_iff.1 hE
    have HE := Lib.hid hE
    have h8 : l0.length ≤ 8 := by have := v.le; rwa [length_fls] at this
    clear hE
    go_wp2_with fail
    refine (aft_at a0 l0 (aftL (fls l0) p) _ c0 p _ _ h0 HE (by omega) (Lib.hid rfl) rfl rfl).mono ?_
    rintro e w7 ⟨Ax, cx, rfl, ox, bw7⟩
    replace h0 := h0.below bw7
    replace hb := below_trans hb bw7
    have hx := Ints.of_own ox
    clear bw7 ox
    rw [length_aftL, LF.out]
    by_cases hl0 : l0.length = 0
    · have e0 : ((l0.length : Int) == 0) = true := by simp [hl0]
      go_wp2
      go_ret
      exact ⟨rfl, hb⟩
    have e0 : ((l0.length : Int) == 0) = false := by rw [beq_eq_false_iff_ne]; omega
    obtain ⟨I, hI, I1⟩ := wi_nat n1 (l0.length : Int) (by omega)
    obtain ⟨K, hK, K1⟩ := wi_nat n2 (l0.length : Int) (by omega)
    have HI := Lib.hid hI
    have HK := Lib.hid hK
    clear hI hK
    go_wp2_with fail
    refine (within_any n1 (l0.length : Int) _ (by omega) (by omega)).mono ?_
    rintro e w' ⟨rfl, rfl⟩
    rw [HI.out]
    go_wp2_with fail
    refine (within_any n2 (l0.length : Int) _ (by omega) (by omega)).mono ?_
    rintro e w' ⟨rfl, rfl⟩
    rw [HK.out]
    obtain ⟨bb, off, f, hA, hbl, d0, d1, iz, kz, HF⟩ := h0.get (k := I) (by omega)
    obtain ⟨bb', off', g, hA', _, g0, g1, iz', kz', HG⟩ := h0.get (k := K) (by omega)
    subst hA
    obtain ⟨rfl, rfl⟩ : bb' = bb ∧ off' = off := by injection hA' with e1; injection e1 with e1 e2; exact ⟨e1.symm, e2.symm⟩
    clear hA'
    obtain ⟨b1, o1, y, e1, hc1, HY⟩ := hx.at_ (k := I) (by rw [length_aftL, LF.out]; omega)
    obtain ⟨b2, o2, x, e2, hc2, HX⟩ := hx.at_ (k := K) (by rw [length_aftL, LF.out]; omega)
    subst e1
    obtain ⟨rfl, rfl⟩ : b2 = b1 ∧ o2 = o1 := by injection e2 with e1; injection e1 with e1 e2; exact ⟨e1.symm, e2.symm⟩
    clear e2
    have kf : Known f p y := by
      have ok := v.ok I (by rw [LF.out]; omega)
      have hy := gt_of_get HY.out
      rw [gt_aftL (by rw [LF.out]; omega), flw_of HF.out] at hy
      rw [flw_of HF.out] at ok
      exact ⟨ok, hy⟩
    have kg : Known g p x := by
      have ok := v.ok K (by rw [LF.out]; omega)
      have hy := gt_of_get HX.out
      rw [gt_aftL (by rw [LF.out]; omega), flw_of HG.out] at hy
      rw [flw_of HG.out] at ok
      exact ⟨ok, hy⟩
    have i1 : (I : Int) < (l0.length : Int) := by omega
    have i2 : (K : Int) < (l0.length : Int) := by omega
    have x0 := fun W => idx0 (I : Int) (K : Int) W
    have x1 := fun W => idx1 (I : Int) (K : Int) W
    clear HY HX HF HG
    go_wp2
    go_loop [72] (fun s => s = .int .i64 0 ∨ (s = .int .i64 1 ∧ Hid (¬ y = sumV f.z f.z.length)) ∨ (s = .int .i64 2 ∧ Hid (¬ y = sumV f.z f.z.length) ∧ Hid (¬ x = sumV g.z g.z.length))) (fun s => 2 - (intOf s).toNat)
    case atStart => exact .inl rfl
    case round =>
      rcases hrel with rfl | ⟨rfl, T1⟩ | ⟨rfl, T1, T2⟩
      · go_wp2
        go_loop [15, 81] (fun s i => ∃ j : Nat, j ≤ f.z.length ∧ i = .int .i64 j ∧ s = .int .i64 (sumV f.z j)) (fun _ i => f.z.length - (intOf i).toNat)
        case atStart => exact ⟨0, Nat.zero_le _, rfl, rfl⟩
        case round =>
          obtain ⟨j, hj, rfl, rfl⟩ := hrel
          by_cases hjl : j < f.z.length
          · obtain ⟨b9, o9, z, e9, hc9, HZ9⟩ := iz.at_ (k := j) hjl
            have hz := gt_of_get HZ9.out
            have z0 : 1 ≤ z := by rw [← hz]; exact kf.ok.sz.lo j hjl
            have z1 : z ≤ 1000 := by rw [← hz]; exact kf.ok.sz.hi j hjl
            obtain ⟨u, hu⟩ : ∃ u, u = sumV f.z j := ⟨_, rfl⟩
            have ub : 0 ≤ sumV f.z j ∧ sumV f.z j ≤ 1000 * j := kf.ok.sz.bd j hj
            rw [← hu] at ub
            have zl : f.z.length ≤ 60 := kf.ok.sz.le
            obtain ⟨ua, ub⟩ := ub
            have HN : Hid (sumV f.z (j + 1) = u + z) := Lib.hid (by rw [sumV, hz, hu])
            rw [← hu]
            have i9 : (j : Int) < (f.z.length : Int) := by omega
            clear hz hu
            rw [e9]
            go_wp2
            go_round
            case rel => exact ⟨j + 1, by omega, by go_num, by rw [HN.out]⟩
            case measure => simp [intOf]; omega
          · obtain rfl : j = f.z.length := by omega
            obtain ⟨Z, hZ⟩ : ∃ Z, Z = sumV f.z f.z.length := ⟨_, rfl⟩
            rw [← hZ]
            by_cases hq : y = Z
            · have u3 : (y == Z) = true := by simp [hq]
              clear hZ hq
              go_wp2
              go_ret
              exact ⟨rfl, hb⟩
            · have u3 : (y == Z) = false := by simp [hq]
              have HQ : Hid (¬ y = sumV f.z f.z.length) := Lib.hid (by rw [← hZ]; exact hq)
              clear hZ hq
              go_wp2
              go_round
              case rel => (exact .inr (.inl ⟨by go_num, HQ⟩))
              case measure => simp [intOf]
      · go_wp2
        go_loop [15, 81] (fun s i => ∃ j : Nat, j ≤ g.z.length ∧ i = .int .i64 j ∧ s = .int .i64 (sumV g.z j)) (fun _ i => g.z.length - (intOf i).toNat)
        case atStart => exact ⟨0, Nat.zero_le _, rfl, rfl⟩
        case round =>
          obtain ⟨j, hj, rfl, rfl⟩ := hrel
          by_cases hjl : j < g.z.length
          · obtain ⟨b9, o9, z, e9, hc9, HZ9⟩ := iz'.at_ (k := j) hjl
            have hz := gt_of_get HZ9.out
            have z0 : 1 ≤ z := by rw [← hz]; exact kg.ok.sz.lo j hjl
            have z1 : z ≤ 1000 := by rw [← hz]; exact kg.ok.sz.hi j hjl
            obtain ⟨u, hu⟩ : ∃ u, u = sumV g.z j := ⟨_, rfl⟩
            have ub : 0 ≤ sumV g.z j ∧ sumV g.z j ≤ 1000 * j := kg.ok.sz.bd j hj
            rw [← hu] at ub
            have zl : g.z.length ≤ 60 := kg.ok.sz.le
            obtain ⟨ua, ub⟩ := ub
            have HN : Hid (sumV g.z (j + 1) = u + z) := Lib.hid (by rw [sumV, hz, hu])
            rw [← hu]
            have i9 : (j : Int) < (g.z.length : Int) := by omega
            clear hz hu
            rw [e9]
            go_wp2
            go_round
            case rel => exact ⟨j + 1, by omega, by go_num, by rw [HN.out]⟩
            case measure => simp [intOf]; omega
          · obtain rfl : j = g.z.length := by omega
            obtain ⟨Z, hZ⟩ : ∃ Z, Z = sumV g.z g.z.length := ⟨_, rfl⟩
            rw [← hZ]
            by_cases hq : x = Z
            · have u3 : (x == Z) = true := by simp [hq]
              clear hZ hq
              go_wp2
              go_ret
              exact ⟨rfl, hb⟩
            · have u3 : (x == Z) = false := by simp [hq]
              have HQ : Hid (¬ x = sumV g.z g.z.length) := Lib.hid (by rw [← hZ]; exact hq)
              clear hZ hq
              go_wp2
              go_round
              case rel => (exact .inr (.inr ⟨by go_num, T1, HQ⟩))
              case measure => simp [intOf]
      · have F1 := kf.short T1.out
        have F2 := kg.short T2.out
        have lz : 0 < f.z.length := by omega
        have lz' : 0 < g.z.length := by omega
        obtain ⟨M, hM⟩ : ∃ M, M = maxTo f.z (f.z.length - 1) := ⟨_, rfl⟩
        obtain ⟨N, hN⟩ : ∃ N, N = maxTo g.z (g.z.length - 1) := ⟨_, rfl⟩
        have M1 : M ≤ 1000 := by rw [hM]; exact max_le lz (fun i hi => kf.ok.sz.hi i hi)
        have M0 : 1 ≤ M := by rw [hM]; exact Int.le_trans (kf.ok.sz.lo 0 lz) (max_ge lz)
        have N1 : N ≤ 1000 := by rw [hN]; exact max_le lz' (fun i hi => kg.ok.sz.hi i hi)
        have N0 : 1 ≤ N := by rw [hN]; exact Int.le_trans (kg.ok.sz.lo 0 lz') (max_ge lz')
        have q0 : 1 ≤ f.q := kf.ok.q0
        have q1 : f.q ≤ 1000 := kf.ok.q1
        have r0 : 1 ≤ g.q := kg.ok.q0
        have r1 : g.q ≤ 1000 := kg.ok.q1
        obtain ⟨y0, y1⟩ := kf.y0
        obtain ⟨z0, z1⟩ := kg.y0
        have key := fair_two (z := f.z) (y := g.z) (Q := f.q) (P := g.q) (M := M) (N := N) (m := (p : Int)) q0 r0 (by omega) (fun i hi => by rw [hM]; exact max_ge hi) (fun i hi => by rw [hN]; exact max_ge hi) F1 F2 M0 N0
        rw [kf.is, kg.is] at key
        obtain ⟨U, hU⟩ : ∃ U, U = y * g.q := ⟨_, rfl⟩
        obtain ⟨V, hV⟩ : ∃ V, V = x * f.q := ⟨_, rfl⟩
        obtain ⟨C, hC⟩ : ∃ C, C = M * g.q := ⟨_, rfl⟩
        obtain ⟨D, hD⟩ : ∃ D, D = N * f.q := ⟨_, rfl⟩
        rw [← hU, ← hV, ← hC, ← hD] at key
        have U0 : 0 ≤ U := by rw [hU]; exact Int.mul_nonneg y0 (by omega)
        have U1 : U ≤ 60000000 := by rw [hU]; have := Int.mul_le_mul y1 r1 (by omega) (by omega); omega
        have V0 : 0 ≤ V := by rw [hV]; exact Int.mul_nonneg z0 (by omega)
        have V1 : V ≤ 60000000 := by rw [hV]; have := Int.mul_le_mul z1 q1 (by omega) (by omega); omega
        have C0 : 0 ≤ C := by rw [hC]; exact Int.mul_nonneg (by omega) (by omega)
        have C1 : C ≤ 1000000 := by rw [hC]; have := Int.mul_le_mul M1 r1 (by omega) (by omega); omega
        have D0 : 0 ≤ D := by rw [hD]; exact Int.mul_nonneg (by omega) (by omega)
        have D1 : D ≤ 1000000 := by rw [hD]; have := Int.mul_le_mul N1 q1 (by omega) (by omega); omega
        have s1 : IntKind.i64.wrap (y * g.q) = U := by rw [← hU]; exact IntWalk.i64_in _ ⟨by omega, by omega⟩
        have s2 : IntKind.i64.wrap (x * f.q) = V := by rw [← hV]; exact IntWalk.i64_in _ ⟨by omega, by omega⟩
        have s3 : IntKind.i64.wrap (M * g.q) = C := by rw [← hC]; exact IntWalk.i64_in _ ⟨by omega, by omega⟩
        have s4 : IntKind.i64.wrap (N * f.q) = D := by rw [← hD]; exact IntWalk.i64_in _ ⟨by omega, by omega⟩
        have HM : Hid (maxTo f.z (f.z.length - 1) = M) := Lib.hid hM.symm
        have HN : Hid (maxTo g.z (g.z.length - 1) = N) := Lib.hid hN.symm
        obtain ⟨key1, key2⟩ := key
        have t1 : decide (U - V < C + D) = true := decide_eq_true key1
        have t2 : decide (V - U < C + D) = true := decide_eq_true key2
        have e5 : IntKind.i64.wrap (C + D) = C + D := IntWalk.i64_in _ ⟨by omega, by omega⟩
        have e6 : IntKind.i64.wrap (U - V) = U - V := IntWalk.i64_in _ ⟨by omega, by omega⟩
        have e7 : IntKind.i64.wrap (V - U) = V - U := IntWalk.i64_in _ ⟨by omega, by omega⟩
        clear hM hN hU hV hC hD kf kg F1 F2 T1 T2
        go_wp2
        go_quiet (fail)
        obtain ⟨W2, hW2⟩ : ∃ W2, W2 = w7.drewN nq := ⟨_, rfl⟩
        have izW : Ints W2 f.a f.z := by rw [hW2]; exact iz
        have izW' : Ints W2 g.a g.z := by rw [hW2]; exact iz'
        replace d0 : W2.cell? ⟨bb', off' + I * 2, none⟩ = some (.int .i64 f.q) := by rw [hW2]; exact d0
        replace d1 : W2.cell? ⟨bb', off' + I * 2 + 1, none⟩ = some (.slice f.a f.z.length f.c) := by rw [hW2]; exact d1
        replace g0 : W2.cell? ⟨bb', off' + K * 2, none⟩ = some (.int .i64 g.q) := by rw [hW2]; exact g0
        replace g1 : W2.cell? ⟨bb', off' + K * 2 + 1, none⟩ = some (.slice g.a g.z.length g.c) := by rw [hW2]; exact g1
        replace hb := below_trans hb (below_of_drewN hW2)
        rw [← hW2]
        clear hW2 hc1 hc2 hx
        go_wp2
        go_quiet ((first | (go_at_call_of 19 (f.a); exact Calls.quiet_of_same (smax_yes f.a f.z _ _ M _ HM (izW.drewN _) lz rfl)) | (go_at_call_of 19 (g.a); exact Calls.quiet_of_same (smax_yes g.a g.z _ _ N _ HN (izW'.drewN _) lz' rfl))))
        go_wp2
        go_ret
        exact ⟨rfl, below_trans hb (below_of_drewN rfl)⟩
  · have e1 : (flE (fls l0) != 0) = true := by simp [hE]
    go_wp2_with fail
    refine (aft_no a0 l0 c0 p _ h0 hE).mono ?_
    rintro e w7 ⟨Ax, cx, rfl, ox, bw7⟩
    replace h0 := h0.below bw7
    replace hb := below_trans hb bw7
    have hx := Ints.of_own ox
    clear bw7 ox
    go_wp2
    go_ret
    exact ⟨rfl, hb⟩

end Go.Proofs.Ythjeokdabdjhfaa
