
/-
  The walk of the law ResumeWhole over the contracts of package resume.
-/
import Derived.Test.YtjlkcjaofglpmaaResC
import Derived.Test.YtjlkcjaofglpmaaPieD
namespace Go.Proofs.Ytjlkcjaofglpmaa
set_option linter.all false
open Go.RowKit Go.Shelf


theorem hv_nots (n t : Nat) : hv (nots n) t = false := by
  unfold hv nots
  simp only [List.getD, List.getElem?_replicate]
  split <;> rfl
theorem ru_flat {s u r : Int} (l : List Bool) (s0 : 0 ≤ s) (r0 : 0 ≤ r) : ruL s 1 r l = ruL s u r (nots l.length) := by
  have hn : (nots l.length).length = l.length := by unfold nots; rw [List.length_replicate]
  unfold ruL
  rw [hn]
  refine tab_ext (fun t ht => ?_)
  rw [re_none s0 r0 (.inl rfl), re_none s0 r0 (.inr (fun t => hv_nots _ t))]
set_option maxRecDepth 100000 in
set_option maxHeartbeats 6400000 in
theorem v_ResumeWhole (K : ResC) (n1 n2 n3 : Int) (a3 : Option Addr) (c3 : Nat) (l3 : List Bool) (w : World)
    (_1 : (Lit.int .i64 n1).wf = true) (_2 : (Lit.int .i64 n2).wf = true) (_3 : (Lit.int .i64 n3).wf = true) (h3 : Bls w a3 l3) (_k3 : l3.length ≤ c3) :
    Calls Try.prog 8 #[.int .i64 n1, .int .i64 n2, .int .i64 n3, .slice a3 l3.length c3] w fun e w' => e = .returned (.bool true) ∧ Below w.heap.size w w' := by
  have hb : Below w.heap.size w w := Below.refl _ _
  clear _1 _2 _3 _k3
  by_cases hE : ruE n1 n2 n3 l3.length = 0
  · obtain ⟨ok, hle⟩ := ru_ok hE
    have HE := Lib.hid hE
    have s0 := ok.s0
    have s1 := ok.s1
    have u0 := ok.u0
    have u1 := ok.u1
    have r0 := ok.r0
    have r1 := ok.r1
    obtain ⟨Z, hZ⟩ : ∃ Z, Z = nots l3.length := ⟨_, rfl⟩
    have HZL : Hid (Z.length = l3.length) := Lib.hid (by rw [hZ]; unfold nots; rw [List.length_replicate])
    have HE1 : Hid (ruE n1 1 n3 l3.length = 0) := Lib.hid (ru_of ⟨s0, s1, by omega, by omega, r0, r1⟩ hle)
    have HE2 : Hid (ruE n1 n2 n3 Z.length = 0) := Lib.hid (ru_of ⟨s0, s1, u0, u1, r0, r1⟩ (by rw [HZL.out]; exact hle))
    have HYZ : Hid (ruL n1 1 n3 l3 = ruL n1 n2 n3 Z) := Lib.hid (by rw [hZ]; exact ru_flat l3 s0 r0)
    have HZV : Hid (∀ t, reV n1 n2 n3 (hv Z) t = min n1 (n3 * t)) := Lib.hid (fun t => by rw [hZ]; exact re_none s0 r0 (.inr (fun t => hv_nots _ t)) t)
    have hmk : ∀ W : World, (Instr.makeSlice 32 (.int .i64 l3.length) (.int .i64 l3.length)).run Try.prog W = .ok (.slice (some ⟨W.heap.size, 0, none⟩) l3.length l3.length) (W.alloc (.cells (Z.map Value.bool).toArray 4)) := fun W => by rw [hZ]; exact made_nots _ hle W
    have e0 : (n2 == 0) = false := by rw [beq_eq_false_iff_ne]; omega
    clear hE ok hZ
    go_enter Try.func8, Try.ntmps8
    go_wp2_with fail
    refine (K.run_yes _ [true, true] [0, 0] _ 2 _ 9 4 3 _ (by exact Bls.lit _ [true, true] _ _ rfl (by decide)) (Lib.hid (by decide)) (Lib.hid (by decide)) rfl rfl).mono ?_
    rintro e w1 ⟨Ax, cx, rfl, hx, kx, bw1⟩
    replace bw1 := below_of1 bw1
    replace h3 := h3.below bw1
    replace hb := below_trans hb bw1
    clear bw1
    go_wp2_with fail
    refine (equal_at Ax _ [0, 0] [0, 0] _ _ _ _ _ (by exact Ints.alloc hx _) (by exact Ints.lit _ [0, 0] _ _ rfl (by decide)) rfl rfl).mono ?_
    rintro e w2 ⟨rfl, nw2, hww2⟩
    have bw2 := below_of_drewN hww2
    clear hww2
    replace bw2 := below_of1 bw2
    replace h3 := h3.below bw2
    replace hb := below_trans hb bw2
    clear bw2
    rw [eqB_true rfl]
    clear hx kx
    go_wp2_with fail
    refine (K.run_yes _ [false, true] [3, 4] _ 2 _ 9 4 3 _ (by exact Bls.lit _ [false, true] _ _ rfl (by decide)) (Lib.hid (by decide)) (Lib.hid (by decide)) rfl rfl).mono ?_
    rintro e w3 ⟨Ax, cx, rfl, hx, kx, bw3⟩
    replace bw3 := below_of1 bw3
    replace h3 := h3.below bw3
    replace hb := below_trans hb bw3
    clear bw3
    go_wp2_with fail
    refine (equal_at Ax _ [3, 4] [3, 4] _ _ _ _ _ (by exact Ints.alloc hx _) (by exact Ints.lit _ [3, 4] _ _ rfl (by decide)) rfl rfl).mono ?_
    rintro e w4 ⟨rfl, nw4, hww4⟩
    have bw4 := below_of_drewN hww4
    clear hww4
    replace bw4 := below_of1 bw4
    replace h3 := h3.below bw4
    replace hb := below_trans hb bw4
    clear bw4
    rw [eqB_true rfl]
    clear hx kx
    go_wp2_with fail
    refine (K.run_yes a3 l3 (ruL n1 n2 n3 l3) _ l3.length c3 n1 n2 n3 _ h3 HE (Lib.hid rfl) rfl rfl).mono ?_
    rintro e w5 ⟨Ax, cx, rfl, hx, kx, bw5⟩
    replace h3 := h3.below bw5
    replace hb := below_trans hb bw5
    clear bw5
    go_wp2_with fail
    refine (K.run_yes a3 l3 (ruL n1 1 n3 l3) _ l3.length c3 n1 1 n3 _ h3 HE1 (Lib.hid rfl) rfl rfl).mono ?_
    rintro e w6 ⟨Ay, cy, rfl, hy, ky, bw6⟩
    replace h3 := h3.below bw6
    replace hx := hx.below bw6
    replace hb := below_trans hb bw6
    clear bw6
    go_wp2_with fail
    refine (K.run_yes _ Z (ruL n1 n2 n3 Z) _ l3.length l3.length n1 n2 n3 _ (by exact Bls.lit _ Z _ _ rfl (by rw [HZL.out]; omega)) HE2 (Lib.hid rfl) HZL.out.symm HZL.out.symm).mono ?_
    rintro e w7 ⟨Az, cz, rfl, hz, kz, bw7⟩
    replace bw7 := below_of1 bw7
    replace h3 := h3.below bw7
    replace hx := hx.below bw7
    replace hy := hy.below bw7
    replace hb := below_trans hb bw7
    clear bw7
    go_wp2_with fail
    refine (equal_at Ay Az (ruL n1 1 n3 l3) (ruL n1 n2 n3 Z) _ _ _ _ _ hy hz (length_ruL _ _ _ _).symm (by rw [length_ruL, HZL.out])).mono ?_
    rintro e w8 ⟨rfl, nw8, hww8⟩
    have bw8 := below_of_drewN hww8
    clear hww8
    replace hx := hx.below bw8
    replace hz := hz.below bw8
    replace hb := below_trans hb bw8
    clear bw8
    rw [eqB_true HYZ.out]
    go_wp2
    go_loopw [19, 103] (fun s i wr => ∃ t m : Nat, t ≤ l3.length ∧ s = .int .i64 (reV n1 n2 n3 (hv l3) t) ∧ i = .int .i64 t ∧ wr = w8.drewN m) (fun _ i _ => l3.length - (intOf i).toNat)
    case atStart => exact ⟨0, 0, Nat.zero_le _, rfl, rfl, rfl⟩
    case round =>
      obtain ⟨t, m, ht, rfl, rfl, rfl⟩ := hrel
      by_cases hlt : t < l3.length
      · obtain ⟨b1, o1, x, e1, hc1, HX⟩ := hx.at_ (k := t) (by rw [length_ruL]; exact hlt)
        obtain ⟨b2, o2, z, e2, hc2, HZ⟩ := hz.at_ (k := t) (by rw [length_ruL, HZL.out]; exact hlt)
        subst e1 e2
        have hx' := gt_of_get HX.out
        have hz' := gt_of_get HZ.out
        rw [gt_ruL hlt] at hx'
        rw [gt_ruL (by rw [HZL.out]; exact hlt), HZV.out] at hz'
        obtain ⟨s, hs⟩ : ∃ s, s = reV n1 n2 n3 (hv l3) t := ⟨_, rfl⟩
        have sb := re_bd (c := hv l3) s0 (show 0 < n2 by omega) r0 t
        have xb := re_bd (c := hv l3) s0 (show 0 < n2 by omega) r0 (t + 1)
        have xm := re_most (c := hv l3) s0 (show 0 < n2 by omega) r0 (t + 1)
        have xw := re_whole (c := hv l3) s0 (show 0 < n2 by omega) r0 t
        have HX' := Lib.hid hx'
        rw [hx'] at xb xm xw
        rw [← hs] at sb xw
        rw [← hs]
        obtain ⟨x0, x1⟩ := xb
        obtain ⟨y0, y1⟩ := sb
        obtain ⟨P, hP⟩ : ∃ P, P = n3 * ((t : Int) + 1) := ⟨_, rfl⟩
        rw [show ((t + 1 : Nat) : Int) = (t : Int) + 1 by omega, ← hP] at xm hz'
        have P0 : 0 ≤ P := by rw [hP]; exact Int.mul_nonneg r0 (by omega)
        have P1 : P ≤ 2000000 := by rw [hP]; have := Int.mul_le_mul r1 (show (t : Int) + 1 ≤ 200 by omega) (by omega) (by omega); omega
        obtain ⟨A, hA⟩ : ∃ A, A = x / n2 := ⟨_, rfl⟩
        obtain ⟨B, hB⟩ : ∃ B, B = s / n2 := ⟨_, rfl⟩
        rw [← hA, ← hB] at xw
        have A0 : 0 ≤ A := by rw [hA]; exact Int.ediv_nonneg x0 (by omega)
        have A1 : A ≤ x := by rw [hA]; exact Int.ediv_le_self (b := n2) x0
        have B0 : 0 ≤ B := by rw [hB]; exact Int.ediv_nonneg y0 (by omega)
        have B1 : B ≤ s := by rw [hB]; exact Int.ediv_le_self (b := n2) y0
        have d1 : Int.tdiv x n2 = A := by rw [hA, Int.tdiv_eq_ediv_of_nonneg x0]
        have d2 : Int.tdiv s n2 = B := by rw [hB, Int.tdiv_eq_ediv_of_nonneg y0]
        have d3 : IntKind.i64.wrap A = A := IntWalk.i64_in _ ⟨by omega, by omega⟩
        have d4 : IntKind.i64.wrap B = B := IntWalk.i64_in _ ⟨by omega, by omega⟩
        have d5 : IntKind.i64.wrap ((t : Int) + 1) = (t : Int) + 1 := IntWalk.i64_in _ ⟨by omega, by omega⟩
        have d6 : IntKind.i64.wrap (n3 * ((t : Int) + 1)) = P := by rw [← hP]; exact IntWalk.i64_in _ ⟨by omega, by omega⟩
        have g1 : decide (A < B) = false := decide_eq_false (by omega)
        have g2 : decide (z < x) = false := decide_eq_false (by omega)
        have i1 : (t : Int) < (l3.length : Int) := by omega
        clear hx' hs hP hA hB xm xw
        rcases Int.lt_trichotomy n1 P with q | q | q
        · obtain rfl : z = n1 := by omega
          clear hz'
          go_wp2
          go_quiet (fail)
          go_wp2
          go_roundw
          case rel => exact ⟨t + 1, m + nq, by omega, by rw [HX'.out], by go_num, by simp [World.drewN, Nat.add_assoc]⟩
          case measure => simp [intOf]; omega
        · subst q
          obtain rfl : z = n1 := by omega
          clear hz'
          go_wp2
          go_quiet (fail)
          go_wp2
          go_roundw
          case rel => exact ⟨t + 1, m + nq, by omega, by rw [HX'.out], by go_num, by simp [World.drewN, Nat.add_assoc]⟩
          case measure => simp [intOf]; omega
        · obtain rfl : z = P := by omega
          clear hz'
          go_wp2
          go_quiet (fail)
          go_wp2
          go_roundw
          case rel => exact ⟨t + 1, m + nq, by omega, by rw [HX'.out], by go_num, by simp [World.drewN, Nat.add_assoc]⟩
          case measure => simp [intOf]; omega
      · obtain rfl : t = l3.length := by omega
        go_wp2
        go_ret
        exact ⟨rfl, below_trans hb (below_of_drewN rfl)⟩
  · have e1 : (ruE n1 n2 n3 l3.length != 0) = true := by simp [hE]
    have HE := Lib.hid hE
    clear hE
    go_enter Try.func8, Try.ntmps8
    go_wp2_with fail
    refine (K.run_yes _ [true, true] [0, 0] _ 2 _ 9 4 3 _ (by exact Bls.lit _ [true, true] _ _ rfl (by decide)) (Lib.hid (by decide)) (Lib.hid (by decide)) rfl rfl).mono ?_
    rintro e w1 ⟨Ax, cx, rfl, hx, kx, bw1⟩
    replace bw1 := below_of1 bw1
    replace h3 := h3.below bw1
    replace hb := below_trans hb bw1
    clear bw1
    go_wp2_with fail
    refine (equal_at Ax _ [0, 0] [0, 0] _ _ _ _ _ (by exact Ints.alloc hx _) (by exact Ints.lit _ [0, 0] _ _ rfl (by decide)) rfl rfl).mono ?_
    rintro e w2 ⟨rfl, nw2, hww2⟩
    have bw2 := below_of_drewN hww2
    clear hww2
    replace bw2 := below_of1 bw2
    replace h3 := h3.below bw2
    replace hb := below_trans hb bw2
    clear bw2
    rw [eqB_true rfl]
    clear hx kx
    go_wp2_with fail
    refine (K.run_yes _ [false, true] [3, 4] _ 2 _ 9 4 3 _ (by exact Bls.lit _ [false, true] _ _ rfl (by decide)) (Lib.hid (by decide)) (Lib.hid (by decide)) rfl rfl).mono ?_
    rintro e w3 ⟨Ax, cx, rfl, hx, kx, bw3⟩
    replace bw3 := below_of1 bw3
    replace h3 := h3.below bw3
    replace hb := below_trans hb bw3
    clear bw3
    go_wp2_with fail
    refine (equal_at Ax _ [3, 4] [3, 4] _ _ _ _ _ (by exact Ints.alloc hx _) (by exact Ints.lit _ [3, 4] _ _ rfl (by decide)) rfl rfl).mono ?_
    rintro e w4 ⟨rfl, nw4, hww4⟩
    have bw4 := below_of_drewN hww4
    clear hww4
    replace bw4 := below_of1 bw4
    replace h3 := h3.below bw4
    replace hb := below_trans hb bw4
    clear bw4
    rw [eqB_true rfl]
    clear hx kx
    go_wp2_with fail
    refine (K.run_no a3 l3 _ c3 n1 n2 n3 _ h3 HE rfl).mono ?_
    rintro e w5 ⟨⟨B, d, rfl⟩, b5⟩
    replace hb := below_trans hb b5
    clear b5
    go_wp2
    go_ret
    exact ⟨rfl, hb⟩

end Go.Proofs.Ytjlkcjaofglpmaa
