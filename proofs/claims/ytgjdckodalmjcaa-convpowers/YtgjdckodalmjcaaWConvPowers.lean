
/-
  The walk of the law ConvPowers.
-/
import Derived.Test.YtgjdckodalmjcaaConvK
namespace Go.Proofs.Ytgjdckodalmjcaa
set_option linter.all false
open Go.RowKit Go.Shelf


theorem pow_lit1 : Pows [0, 3, 4] 2 [0, 3, 4] := ⟨cv_of (by decide), by decide, by decide, by decide⟩
theorem pow_lit2 : Pows [1, 2, 3] 2 [2, 3, 4] := ⟨cv_of (by decide), by decide, by decide, by decide⟩

/-- m of them and n of them are m and n of them. -/
theorem pow_conv {f a b c : List Int} {m n : Int} (za : Pows f m a) (zb : Pows f n b) (zc : Pows f (m + n) c) (va : Cv a) (vb : Cv b) : Convs a b c := by
  have m1 := za.n1; have n1 := zb.n1
  refine ⟨va, vb, by rw [za.rlen, zb.rlen], ?_⟩
  rw [za.is, zb.is, zc.is, pw_add]
  congr 1
  omega

set_option maxHeartbeats 3200000 in
theorem walk_ConvPowers (a0 : Option Addr) (c0 : Nat) (l0 : List Int) (m n : Int) (w : World)
    (h0 : Ints w a0 l0) (k0 : l0.length ≤ c0) (_hm : (Lit.int .i64 m).wf = true) (_hn : (Lit.int .i64 n).wf = true) :
    Calls Try.prog 10 #[.slice a0 l0.length c0, .int .i64 m, .int .i64 n] w fun e w' => e = .returned (.bool true) ∧ Below w.heap.size w w' := by
  have hb : Below w.heap.size w w := Below.refl _ _
  by_cases g : chk l0 = 0
  · have t1 : (chk l0 != 0) = false := by simp [g]
    have v := cv_of g
    obtain ⟨M, hM⟩ : ∃ M, M = wi m 30 := ⟨_, rfl⟩
    obtain ⟨N, hN⟩ : ∃ N, N = wi n 30 := ⟨_, rfl⟩
    have m0 : 0 ≤ M := by rw [hM]; exact wi_nonneg _ _ (by decide)
    have n0 : 0 ≤ N := by rw [hN]; exact wi_nonneg _ _ (by decide)
    have m1 : M < 30 := by rw [hM]; exact wi_lt _ _ (by decide)
    have n1 : N < 30 := by rw [hN]; exact wi_lt _ _ (by decide)
    have HM := Lib.hid hM
    have HN := Lib.hid hN
    clear hM hN g
    obtain ⟨a, za⟩ := ex_pow v (n := 1 + M) (by omega) (by omega)
    obtain ⟨b, zb⟩ := ex_pow v (n := 1 + N) (by omega) (by omega)
    obtain ⟨c, zc⟩ := ex_pow v (n := 1 + M + (1 + N)) (by omega) (by omega)
    have zo : Pows l0 1 l0 := ⟨v, by decide, by decide, rfl⟩
    have b0 : bigB l0 = false := bigB_no.2 v.hi
    have B0 := Lib.hid b0
    clear b0
    cases bA : bigB a
    · cases bB : bigB b
      · have zx := pow_conv za zb zc (za.curve bA) (zb.curve bB)
        cases bC : bigB c
        · have BA := Lib.hid bA
          clear bA
          have BB := Lib.hid bB
          clear bB
          have BC := Lib.hid bC
          clear bC
          go_enter Try.func10, Try.ntmps10
          go_wp2_with fail
          refine (pow_yes _ [0, 3, 4] [0, 3, 4] _ _ 2 _ pow_lit1 (by decide) (by exact Ints.lit _ _ _ _ rfl (by decide)) rfl).mono ?_
          rintro e w1 ⟨Ax, cx, rfl, ox, bw1⟩
          replace bw1 := below_of1 bw1
          replace h0 := h0.below bw1
          replace hb := below_trans hb bw1
          have hx := Ints.of_own ox
          clear bw1 ox
          go_wp2_with fail
          refine (equal_at Ax _ [0, 3, 4] [0, 3, 4] _ _ _ _ _ (by exact Ints.alloc hx _) (by exact Ints.lit _ _ _ _ rfl (by decide)) rfl rfl).mono ?_
          rintro e w2 ⟨rfl, nw2, hww2⟩
          have bw2 := below_of_drewN hww2
          clear hww2
          replace bw2 := below_of1 bw2
          replace h0 := h0.below bw2
          replace hb := below_trans hb bw2
          clear bw2
          rw [eqB_true rfl]
          clear hx
          go_wp2_with fail
          refine (pow_yes _ [1, 2, 3] [2, 3, 4] _ _ 2 _ pow_lit2 (by decide) (by exact Ints.lit _ _ _ _ rfl (by decide)) rfl).mono ?_
          rintro e w3 ⟨Ax, cx, rfl, ox, bw3⟩
          replace bw3 := below_of1 bw3
          replace h0 := h0.below bw3
          replace hb := below_trans hb bw3
          have hx := Ints.of_own ox
          clear bw3 ox
          go_wp2_with fail
          refine (equal_at Ax _ [2, 3, 4] [2, 3, 4] _ _ _ _ _ (by exact Ints.alloc hx _) (by exact Ints.lit _ _ _ _ rfl (by decide)) rfl rfl).mono ?_
          rintro e w4 ⟨rfl, nw4, hww4⟩
          have bw4 := below_of_drewN hww4
          clear hww4
          replace bw4 := below_of1 bw4
          replace h0 := h0.below bw4
          replace hb := below_trans hb bw4
          clear bw4
          rw [eqB_true rfl]
          clear hx
          go_wp2_with fail
          refine (check_any a0 l0 c0 _ h0).mono ?_
          rintro e w' ⟨rfl, rfl⟩
          go_wp2_with fail
          refine (within_any m 30 _ (by decide) (by decide)).mono ?_
          rintro e w' ⟨rfl, rfl⟩
          rw [← HM.out]
          go_wp2_with fail
          refine (within_any n 30 _ (by decide) (by decide)).mono ?_
          rintro e w' ⟨rfl, rfl⟩
          rw [← HN.out]
          go_wp2_with fail
          refine (pow_yes a0 l0 a _ c0 (1 + M) _ za BA.out h0 rfl).mono ?_
          rintro e w5 ⟨Aa, ca, rfl, oa, bw5⟩
          replace h0 := h0.below bw5
          replace hb := below_trans hb bw5
          have ha := Ints.of_own oa
          clear bw5 oa
          go_wp2_with fail
          refine (pow_yes a0 l0 b _ c0 (1 + N) _ zb BB.out h0 rfl).mono ?_
          rintro e w6 ⟨Ap, cp, rfl, op, bw6⟩
          replace h0 := h0.below bw6
          replace ha := ha.below bw6
          replace hb := below_trans hb bw6
          have hp := Ints.of_own op
          clear bw6 op
          go_wp2_with fail
          refine (pow_yes a0 l0 c _ c0 (1 + M + (1 + N)) _ zc BC.out h0 rfl).mono ?_
          rintro e w7 ⟨Ac, cc, rfl, oc, bw7⟩
          replace h0 := h0.below bw7
          replace ha := ha.below bw7
          replace hp := hp.below bw7
          replace hb := below_trans hb bw7
          have hc := Ints.of_own oc
          clear bw7 oc
          go_wp2_with fail
          refine (pow_yes a0 l0 l0 _ c0 1 _ zo B0.out h0 rfl).mono ?_
          rintro e w8 ⟨Ao, co, rfl, oo, bw8⟩
          replace h0 := h0.below bw8
          replace ha := ha.below bw8
          replace hp := hp.below bw8
          replace hc := hc.below bw8
          replace hb := below_trans hb bw8
          have ho := Ints.of_own oo
          clear bw8 oo
          go_wp2_with fail
          refine (equal_any Ao a0 l0 l0 co c0 _ ho h0).mono ?_
          rintro e w9 ⟨rfl, nw9, hww9⟩
          have bw9 := below_of_drewN hww9
          clear hww9
          replace ha := ha.below bw9
          replace hp := hp.below bw9
          replace hc := hc.below bw9
          replace hb := below_trans hb bw9
          clear bw9
          rw [eqB_true rfl]
          go_wp2_with fail
          refine (conv_yes Aa Ap a b c _ _ ca cp _ zx BC.out ha hp rfl rfl).mono ?_
          rintro e w10 ⟨Ax, cx, rfl, ox, bw10⟩
          replace hc := hc.below bw10
          replace hb := below_trans hb bw10
          have hx := Ints.of_own ox
          clear bw10 ox
          go_wp2_with fail
          refine (same_ok Ax Ac c c _ _ _ _ _ _ _ hx hc rfl rfl (.inr (.inr ⟨rfl, rfl, rfl⟩))).mono ?_
          rintro e w11 ⟨rfl, nw11, hww11⟩
          have bw11 := below_of_drewN hww11
          clear hww11
          replace hb := below_trans hb bw11
          clear bw11
          go_wp2
          go_ret
          exact ⟨rfl, hb⟩
        · have BA := Lib.hid bA
          clear bA
          have BB := Lib.hid bB
          clear bB
          have BC := Lib.hid bC
          clear bC
          go_enter Try.func10, Try.ntmps10
          go_wp2_with fail
          refine (pow_yes _ [0, 3, 4] [0, 3, 4] _ _ 2 _ pow_lit1 (by decide) (by exact Ints.lit _ _ _ _ rfl (by decide)) rfl).mono ?_
          rintro e w1 ⟨Ax, cx, rfl, ox, bw1⟩
          replace bw1 := below_of1 bw1
          replace h0 := h0.below bw1
          replace hb := below_trans hb bw1
          have hx := Ints.of_own ox
          clear bw1 ox
          go_wp2_with fail
          refine (equal_at Ax _ [0, 3, 4] [0, 3, 4] _ _ _ _ _ (by exact Ints.alloc hx _) (by exact Ints.lit _ _ _ _ rfl (by decide)) rfl rfl).mono ?_
          rintro e w2 ⟨rfl, nw2, hww2⟩
          have bw2 := below_of_drewN hww2
          clear hww2
          replace bw2 := below_of1 bw2
          replace h0 := h0.below bw2
          replace hb := below_trans hb bw2
          clear bw2
          rw [eqB_true rfl]
          clear hx
          go_wp2_with fail
          refine (pow_yes _ [1, 2, 3] [2, 3, 4] _ _ 2 _ pow_lit2 (by decide) (by exact Ints.lit _ _ _ _ rfl (by decide)) rfl).mono ?_
          rintro e w3 ⟨Ax, cx, rfl, ox, bw3⟩
          replace bw3 := below_of1 bw3
          replace h0 := h0.below bw3
          replace hb := below_trans hb bw3
          have hx := Ints.of_own ox
          clear bw3 ox
          go_wp2_with fail
          refine (equal_at Ax _ [2, 3, 4] [2, 3, 4] _ _ _ _ _ (by exact Ints.alloc hx _) (by exact Ints.lit _ _ _ _ rfl (by decide)) rfl rfl).mono ?_
          rintro e w4 ⟨rfl, nw4, hww4⟩
          have bw4 := below_of_drewN hww4
          clear hww4
          replace bw4 := below_of1 bw4
          replace h0 := h0.below bw4
          replace hb := below_trans hb bw4
          clear bw4
          rw [eqB_true rfl]
          clear hx
          go_wp2_with fail
          refine (check_any a0 l0 c0 _ h0).mono ?_
          rintro e w' ⟨rfl, rfl⟩
          go_wp2_with fail
          refine (within_any m 30 _ (by decide) (by decide)).mono ?_
          rintro e w' ⟨rfl, rfl⟩
          rw [← HM.out]
          go_wp2_with fail
          refine (within_any n 30 _ (by decide) (by decide)).mono ?_
          rintro e w' ⟨rfl, rfl⟩
          rw [← HN.out]
          go_wp2_with fail
          refine (pow_yes a0 l0 a _ c0 (1 + M) _ za BA.out h0 rfl).mono ?_
          rintro e w5 ⟨Aa, ca, rfl, oa, bw5⟩
          replace h0 := h0.below bw5
          replace hb := below_trans hb bw5
          have ha := Ints.of_own oa
          clear bw5 oa
          go_wp2_with fail
          refine (pow_yes a0 l0 b _ c0 (1 + N) _ zb BB.out h0 rfl).mono ?_
          rintro e w6 ⟨Ap, cp, rfl, op, bw6⟩
          replace h0 := h0.below bw6
          replace ha := ha.below bw6
          replace hb := below_trans hb bw6
          have hp := Ints.of_own op
          clear bw6 op
          go_wp2_with fail
          refine (pow_no a0 l0 c _ c0 (1 + M + (1 + N)) _ zc BC.out h0 rfl).mono ?_
          rintro e w7 ⟨Ac, cc, rfl, oc, bw7⟩
          replace h0 := h0.below bw7
          replace ha := ha.below bw7
          replace hp := hp.below bw7
          replace hb := below_trans hb bw7
          have hc := Ints.of_own oc
          clear bw7 oc
          go_wp2_with fail
          refine (pow_yes a0 l0 l0 _ c0 1 _ zo B0.out h0 rfl).mono ?_
          rintro e w8 ⟨Ao, co, rfl, oo, bw8⟩
          replace h0 := h0.below bw8
          replace ha := ha.below bw8
          replace hp := hp.below bw8
          replace hc := hc.below bw8
          replace hb := below_trans hb bw8
          have ho := Ints.of_own oo
          clear bw8 oo
          go_wp2_with fail
          refine (equal_any Ao a0 l0 l0 co c0 _ ho h0).mono ?_
          rintro e w9 ⟨rfl, nw9, hww9⟩
          have bw9 := below_of_drewN hww9
          clear hww9
          replace ha := ha.below bw9
          replace hp := hp.below bw9
          replace hc := hc.below bw9
          replace hb := below_trans hb bw9
          clear bw9
          rw [eqB_true rfl]
          go_wp2_with fail
          refine (conv_no Aa Ap a b c _ _ ca cp _ zx BC.out ha hp rfl rfl).mono ?_
          rintro e w10 ⟨Ax, cx, rfl, ox, bw10⟩
          replace hc := hc.below bw10
          replace hb := below_trans hb bw10
          have hx := Ints.of_own ox
          clear bw10 ox
          go_wp2_with fail
          refine (same_ok Ax Ac [] [] _ _ _ _ _ _ _ hx hc rfl rfl (.inl rfl)).mono ?_
          rintro e w11 ⟨rfl, nw11, hww11⟩
          have bw11 := below_of_drewN hww11
          clear hww11
          replace hb := below_trans hb bw11
          clear bw11
          go_wp2
          go_ret
          exact ⟨rfl, hb⟩
      · have BA := Lib.hid bA
        clear bA
        have BB := Lib.hid bB
        clear bB
        go_enter Try.func10, Try.ntmps10
        go_wp2_with fail
        refine (pow_yes _ [0, 3, 4] [0, 3, 4] _ _ 2 _ pow_lit1 (by decide) (by exact Ints.lit _ _ _ _ rfl (by decide)) rfl).mono ?_
        rintro e w1 ⟨Ax, cx, rfl, ox, bw1⟩
        replace bw1 := below_of1 bw1
        replace h0 := h0.below bw1
        replace hb := below_trans hb bw1
        have hx := Ints.of_own ox
        clear bw1 ox
        go_wp2_with fail
        refine (equal_at Ax _ [0, 3, 4] [0, 3, 4] _ _ _ _ _ (by exact Ints.alloc hx _) (by exact Ints.lit _ _ _ _ rfl (by decide)) rfl rfl).mono ?_
        rintro e w2 ⟨rfl, nw2, hww2⟩
        have bw2 := below_of_drewN hww2
        clear hww2
        replace bw2 := below_of1 bw2
        replace h0 := h0.below bw2
        replace hb := below_trans hb bw2
        clear bw2
        rw [eqB_true rfl]
        clear hx
        go_wp2_with fail
        refine (pow_yes _ [1, 2, 3] [2, 3, 4] _ _ 2 _ pow_lit2 (by decide) (by exact Ints.lit _ _ _ _ rfl (by decide)) rfl).mono ?_
        rintro e w3 ⟨Ax, cx, rfl, ox, bw3⟩
        replace bw3 := below_of1 bw3
        replace h0 := h0.below bw3
        replace hb := below_trans hb bw3
        have hx := Ints.of_own ox
        clear bw3 ox
        go_wp2_with fail
        refine (equal_at Ax _ [2, 3, 4] [2, 3, 4] _ _ _ _ _ (by exact Ints.alloc hx _) (by exact Ints.lit _ _ _ _ rfl (by decide)) rfl rfl).mono ?_
        rintro e w4 ⟨rfl, nw4, hww4⟩
        have bw4 := below_of_drewN hww4
        clear hww4
        replace bw4 := below_of1 bw4
        replace h0 := h0.below bw4
        replace hb := below_trans hb bw4
        clear bw4
        rw [eqB_true rfl]
        clear hx
        go_wp2_with fail
        refine (check_any a0 l0 c0 _ h0).mono ?_
        rintro e w' ⟨rfl, rfl⟩
        go_wp2_with fail
        refine (within_any m 30 _ (by decide) (by decide)).mono ?_
        rintro e w' ⟨rfl, rfl⟩
        rw [← HM.out]
        go_wp2_with fail
        refine (within_any n 30 _ (by decide) (by decide)).mono ?_
        rintro e w' ⟨rfl, rfl⟩
        rw [← HN.out]
        go_wp2_with fail
        refine (pow_yes a0 l0 a _ c0 (1 + M) _ za BA.out h0 rfl).mono ?_
        rintro e w5 ⟨Aa, ca, rfl, oa, bw5⟩
        replace h0 := h0.below bw5
        replace hb := below_trans hb bw5
        have ha := Ints.of_own oa
        clear bw5 oa
        go_wp2_with fail
        refine (pow_no a0 l0 b _ c0 (1 + N) _ zb BB.out h0 rfl).mono ?_
        rintro e w6 ⟨Ap, cp, rfl, op, bw6⟩
        replace h0 := h0.below bw6
        replace ha := ha.below bw6
        replace hb := below_trans hb bw6
        have hp := Ints.of_own op
        clear bw6 op
        go_wp2_with fail
        refine (pow_ok a0 l0 c _ c0 (1 + M + (1 + N)) _ zc  h0 rfl).mono ?_
        rintro e w7 ⟨Ac, cc, rfl, oc, bw7⟩
        replace h0 := h0.below bw7
        replace ha := ha.below bw7
        replace hp := hp.below bw7
        replace hb := below_trans hb bw7
        have hc := Ints.of_own oc
        clear bw7 oc
        go_wp2_with fail
        refine (pow_yes a0 l0 l0 _ c0 1 _ zo B0.out h0 rfl).mono ?_
        rintro e w8 ⟨Ao, co, rfl, oo, bw8⟩
        replace h0 := h0.below bw8
        replace ha := ha.below bw8
        replace hp := hp.below bw8
        replace hc := hc.below bw8
        replace hb := below_trans hb bw8
        have ho := Ints.of_own oo
        clear bw8 oo
        go_wp2_with fail
        refine (equal_any Ao a0 l0 l0 co c0 _ ho h0).mono ?_
        rintro e w9 ⟨rfl, nw9, hww9⟩
        have bw9 := below_of_drewN hww9
        clear hww9
        replace ha := ha.below bw9
        replace hp := hp.below bw9
        replace hc := hc.below bw9
        replace hb := below_trans hb bw9
        clear bw9
        rw [eqB_true rfl]
        go_wp2
        go_ret
        exact ⟨rfl, hb⟩
    · have BA := Lib.hid bA
      clear bA
      go_enter Try.func10, Try.ntmps10
      go_wp2_with fail
      refine (pow_yes _ [0, 3, 4] [0, 3, 4] _ _ 2 _ pow_lit1 (by decide) (by exact Ints.lit _ _ _ _ rfl (by decide)) rfl).mono ?_
      rintro e w1 ⟨Ax, cx, rfl, ox, bw1⟩
      replace bw1 := below_of1 bw1
      replace h0 := h0.below bw1
      replace hb := below_trans hb bw1
      have hx := Ints.of_own ox
      clear bw1 ox
      go_wp2_with fail
      refine (equal_at Ax _ [0, 3, 4] [0, 3, 4] _ _ _ _ _ (by exact Ints.alloc hx _) (by exact Ints.lit _ _ _ _ rfl (by decide)) rfl rfl).mono ?_
      rintro e w2 ⟨rfl, nw2, hww2⟩
      have bw2 := below_of_drewN hww2
      clear hww2
      replace bw2 := below_of1 bw2
      replace h0 := h0.below bw2
      replace hb := below_trans hb bw2
      clear bw2
      rw [eqB_true rfl]
      clear hx
      go_wp2_with fail
      refine (pow_yes _ [1, 2, 3] [2, 3, 4] _ _ 2 _ pow_lit2 (by decide) (by exact Ints.lit _ _ _ _ rfl (by decide)) rfl).mono ?_
      rintro e w3 ⟨Ax, cx, rfl, ox, bw3⟩
      replace bw3 := below_of1 bw3
      replace h0 := h0.below bw3
      replace hb := below_trans hb bw3
      have hx := Ints.of_own ox
      clear bw3 ox
      go_wp2_with fail
      refine (equal_at Ax _ [2, 3, 4] [2, 3, 4] _ _ _ _ _ (by exact Ints.alloc hx _) (by exact Ints.lit _ _ _ _ rfl (by decide)) rfl rfl).mono ?_
      rintro e w4 ⟨rfl, nw4, hww4⟩
      have bw4 := below_of_drewN hww4
      clear hww4
      replace bw4 := below_of1 bw4
      replace h0 := h0.below bw4
      replace hb := below_trans hb bw4
      clear bw4
      rw [eqB_true rfl]
      clear hx
      go_wp2_with fail
      refine (check_any a0 l0 c0 _ h0).mono ?_
      rintro e w' ⟨rfl, rfl⟩
      go_wp2_with fail
      refine (within_any m 30 _ (by decide) (by decide)).mono ?_
      rintro e w' ⟨rfl, rfl⟩
      rw [← HM.out]
      go_wp2_with fail
      refine (within_any n 30 _ (by decide) (by decide)).mono ?_
      rintro e w' ⟨rfl, rfl⟩
      rw [← HN.out]
      go_wp2_with fail
      refine (pow_no a0 l0 a _ c0 (1 + M) _ za BA.out h0 rfl).mono ?_
      rintro e w5 ⟨Aa, ca, rfl, oa, bw5⟩
      replace h0 := h0.below bw5
      replace hb := below_trans hb bw5
      have ha := Ints.of_own oa
      clear bw5 oa
      go_wp2_with fail
      refine (pow_ok a0 l0 b _ c0 (1 + N) _ zb  h0 rfl).mono ?_
      rintro e w6 ⟨Ap, cp, rfl, op, bw6⟩
      replace h0 := h0.below bw6
      replace ha := ha.below bw6
      replace hb := below_trans hb bw6
      have hp := Ints.of_own op
      clear bw6 op
      go_wp2_with fail
      refine (pow_ok a0 l0 c _ c0 (1 + M + (1 + N)) _ zc  h0 rfl).mono ?_
      rintro e w7 ⟨Ac, cc, rfl, oc, bw7⟩
      replace h0 := h0.below bw7
      replace ha := ha.below bw7
      replace hp := hp.below bw7
      replace hb := below_trans hb bw7
      have hc := Ints.of_own oc
      clear bw7 oc
      go_wp2_with fail
      refine (pow_yes a0 l0 l0 _ c0 1 _ zo B0.out h0 rfl).mono ?_
      rintro e w8 ⟨Ao, co, rfl, oo, bw8⟩
      replace h0 := h0.below bw8
      replace ha := ha.below bw8
      replace hp := hp.below bw8
      replace hc := hc.below bw8
      replace hb := below_trans hb bw8
      have ho := Ints.of_own oo
      clear bw8 oo
      go_wp2_with fail
      refine (equal_any Ao a0 l0 l0 co c0 _ ho h0).mono ?_
      rintro e w9 ⟨rfl, nw9, hww9⟩
      have bw9 := below_of_drewN hww9
      clear hww9
      replace ha := ha.below bw9
      replace hp := hp.below bw9
      replace hc := hc.below bw9
      replace hb := below_trans hb bw9
      clear bw9
      rw [eqB_true rfl]
      go_wp2
      go_ret
      exact ⟨rfl, hb⟩
  · have t1 : (chk l0 != 0) = true := by simp [g]
    clear g
    go_enter Try.func10, Try.ntmps10
    go_wp2_with fail
    refine (pow_yes _ [0, 3, 4] [0, 3, 4] _ _ 2 _ pow_lit1 (by decide) (by exact Ints.lit _ _ _ _ rfl (by decide)) rfl).mono ?_
    rintro e w1 ⟨Ax, cx, rfl, ox, bw1⟩
    replace bw1 := below_of1 bw1
    replace h0 := h0.below bw1
    replace hb := below_trans hb bw1
    have hx := Ints.of_own ox
    clear bw1 ox
    go_wp2_with fail
    refine (equal_at Ax _ [0, 3, 4] [0, 3, 4] _ _ _ _ _ (by exact Ints.alloc hx _) (by exact Ints.lit _ _ _ _ rfl (by decide)) rfl rfl).mono ?_
    rintro e w2 ⟨rfl, nw2, hww2⟩
    have bw2 := below_of_drewN hww2
    clear hww2
    replace bw2 := below_of1 bw2
    replace h0 := h0.below bw2
    replace hb := below_trans hb bw2
    clear bw2
    rw [eqB_true rfl]
    clear hx
    go_wp2_with fail
    refine (pow_yes _ [1, 2, 3] [2, 3, 4] _ _ 2 _ pow_lit2 (by decide) (by exact Ints.lit _ _ _ _ rfl (by decide)) rfl).mono ?_
    rintro e w3 ⟨Ax, cx, rfl, ox, bw3⟩
    replace bw3 := below_of1 bw3
    replace h0 := h0.below bw3
    replace hb := below_trans hb bw3
    have hx := Ints.of_own ox
    clear bw3 ox
    go_wp2_with fail
    refine (equal_at Ax _ [2, 3, 4] [2, 3, 4] _ _ _ _ _ (by exact Ints.alloc hx _) (by exact Ints.lit _ _ _ _ rfl (by decide)) rfl rfl).mono ?_
    rintro e w4 ⟨rfl, nw4, hww4⟩
    have bw4 := below_of_drewN hww4
    clear hww4
    replace bw4 := below_of1 bw4
    replace h0 := h0.below bw4
    replace hb := below_trans hb bw4
    clear bw4
    rw [eqB_true rfl]
    clear hx
    go_wp2_with fail
    refine (check_any a0 l0 c0 _ h0).mono ?_
    rintro e w' ⟨rfl, rfl⟩
    go_wp2
    go_ret
    exact ⟨rfl, hb⟩

end Go.Proofs.Ytgjdckodalmjcaa
