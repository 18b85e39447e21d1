
/-
  The walk of the law CatchLags over the contracts of package catch.
-/
import Derived.Test.YtnjeelmlabefjaaCatL
namespace Go.Proofs.Ytnjeelmlabefjaa
set_option linter.all false
open Go.RowKit Go.Shelf Go.Lib


theorem IsDn.uniq {a : List Int} {r g : Int} {n m : Nat} (h : IsDn a r g n) (k : IsDn a r g m) : n = m := by
  have := h.least k.hit; have := k.least h.hit; omega
set_option maxRecDepth 100000 in
set_option maxHeartbeats 3200000 in
theorem v_CatchLags (K : CatC) (a0 : Option Addr) (c0 : Nat) (l0 : List Int) (n1 n2 : Int) (w : World)
    (h0 : Ints w a0 l0) (_k0 : l0.length ≤ c0) (_1 : (Lit.int .i64 n1).wf = true) (_2 : (Lit.int .i64 n2).wf = true) :
    Calls Try.prog 3 #[.slice a0 l0.length c0, .int .i64 n1, .int .i64 n2] w fun e w' => e = .returned (.bool true) ∧ Below w.heap.size w w' := by
  have hb : Below w.heap.size w w := Below.refl _ _
  clear _1 _2 _k0
  obtain ⟨x, E, hx⟩ := ex_dn l0 n1 n2
  have HV := Lib.hid hx
  by_cases hE : lgE l0 n1 n2 = 0
  · have ok := lg_ok hE
    have v := ok.tr
    have r0 := ok.r0
    have r1 := ok.r1
    have g0 := ok.g0
    have g1 := ok.g1
    have HE := Lib.hid hE
    have HQ := Lib.hid (lin_of v r0 r1)
    have LX := Lib.hid (length_lgL l0 n1 n2)
    clear hE ok
    rcases hx with ⟨_, d, hx, rfl, rfl⟩ | ⟨_, hx, rfl, rfl⟩ | ⟨q, _⟩
    · have HX := Lib.hid hx
      clear hx
      go_enter Try.func3, Try.ntmps3
      go_wp2_with fail
      refine (K.lag_yes a0 l0 (lgL l0 n1 n2) _ (l0.length + 1) c0 n1 n2 _ h0 HE (Lib.hid rfl) rfl rfl).mono ?_
      rintro e w1 ⟨Ax, cx, rfl, hx, kx, bw1⟩
      replace h0 := h0.below bw1
      replace hb := below_trans hb bw1
      clear bw1
      go_wp2_with fail
      refine (K.done_at a0 l0 _ c0 n1 n2 d 0 _ h0 HV rfl).mono ?_
      rintro e w2 ⟨rfl, bw2⟩
      replace h0 := h0.below bw2
      replace hx := hx.below bw2
      replace hb := below_trans hb bw2
      clear bw2
      go_wp2_with fail
      refine (rated_any a0 l0 c0 n1 _ h0).mono ?_
      rintro e w' ⟨rfl, rfl⟩
      rw [HQ.out]
      go_wp2_with fail
      refine (refLag_any a0 l0 c0 n1 n2 _ h0 v r0 r1 g0 g1).mono ?_
      rintro e w3 ⟨Ay, cy, rfl, oy, bw3⟩
      replace h0 := h0.below bw3
      replace hx := hx.below bw3
      replace hb := below_trans hb bw3
      have hy := Ints.of_own oy
      clear bw3 oy
      rw [LX.out]
      go_wp2_with fail
      refine (equal_at Ax Ay (lgL l0 n1 n2) (lgL l0 n1 n2) _ _ _ _ _ hx hy LX.out.symm LX.out.symm).mono ?_
      rintro e w4 ⟨rfl, nw4, hww4⟩
      have bw4 := below_of_drewN hww4
      clear hww4
      replace hy := hy.below bw4
      replace hb := below_trans hb bw4
      clear bw4
      rw [eqB_true rfl]
      go_wp2_with fail
      refine (zindex_any Ay (lgL l0 n1 n2) _ _ _ hy LX.out.symm).mono ?_
      rintro e w' ⟨⟨R, hR, rfl⟩, rfl⟩
      rcases hR with ⟨k, hk, hz, hn, rfl⟩ | ⟨hn, rfl⟩
      · rw [LX.out] at hk
        rw [gt_lgL (by omega)] at hz
        obtain rfl : d = k := HX.out.uniq ⟨by omega, hz, fun s hs => by have := hn s hs; rwa [gt_lgL (by omega)] at this⟩
        clear hk hz hn
        go_wp2
        go_ret
        exact ⟨rfl, hb⟩
      · have := hn d (by rw [LX.out]; have := HX.out.le; omega)
        rw [gt_lgL HX.out.le] at this
        exact absurd HX.out.hit this
    · have HX := Lib.hid hx
      clear hx
      go_enter Try.func3, Try.ntmps3
      go_wp2_with fail
      refine (K.lag_yes a0 l0 (lgL l0 n1 n2) _ (l0.length + 1) c0 n1 n2 _ h0 HE (Lib.hid rfl) rfl rfl).mono ?_
      rintro e w1 ⟨Ax, cx, rfl, hx, kx, bw1⟩
      replace h0 := h0.below bw1
      replace hb := below_trans hb bw1
      clear bw1
      go_wp2_with fail
      refine (K.done_at a0 l0 _ c0 n1 n2 0 5 _ h0 HV rfl).mono ?_
      rintro e w2 ⟨rfl, bw2⟩
      replace h0 := h0.below bw2
      replace hx := hx.below bw2
      replace hb := below_trans hb bw2
      clear bw2
      go_wp2_with fail
      refine (rated_any a0 l0 c0 n1 _ h0).mono ?_
      rintro e w' ⟨rfl, rfl⟩
      rw [HQ.out]
      go_wp2_with fail
      refine (refLag_any a0 l0 c0 n1 n2 _ h0 v r0 r1 g0 g1).mono ?_
      rintro e w3 ⟨Ay, cy, rfl, oy, bw3⟩
      replace h0 := h0.below bw3
      replace hx := hx.below bw3
      replace hb := below_trans hb bw3
      have hy := Ints.of_own oy
      clear bw3 oy
      rw [LX.out]
      go_wp2_with fail
      refine (equal_at Ax Ay (lgL l0 n1 n2) (lgL l0 n1 n2) _ _ _ _ _ hx hy LX.out.symm LX.out.symm).mono ?_
      rintro e w4 ⟨rfl, nw4, hww4⟩
      have bw4 := below_of_drewN hww4
      clear hww4
      replace hy := hy.below bw4
      replace hb := below_trans hb bw4
      clear bw4
      rw [eqB_true rfl]
      go_wp2_with fail
      refine (zindex_any Ay (lgL l0 n1 n2) _ _ _ hy LX.out.symm).mono ?_
      rintro e w' ⟨⟨R, hR, rfl⟩, rfl⟩
      rcases hR with ⟨k, hk, hz, hn, rfl⟩ | ⟨hn, rfl⟩
      · rw [LX.out] at hk
        rw [gt_lgL (by omega)] at hz
        exact absurd hz (HX.out k (by omega))
      · clear hn
        go_wp2
        go_ret
        exact ⟨rfl, hb⟩
    · exact absurd (lg_of ⟨v, r0, r1, g0, g1⟩) q
  · have HE := Lib.hid hE
    rcases hx with ⟨q, _⟩ | ⟨q, _⟩ | ⟨_, rfl, e1⟩
    · exact absurd q hE
    · exact absurd q hE
    by_cases hQ : linE l0 n1 = 0
    · have HQ := Lib.hid hQ
      have h4 : n2 < 0 ∨ 1000000 < n2 := by
        by_cases c : n2 < 0 ∨ 1000000 < n2
        · exact c
        · obtain ⟨v, r0, r1⟩ := lin_ok hQ
          exact absurd (lg_of ⟨v, r0, r1, by omega, by omega⟩) hE
      have hG : lgE l0 n1 n2 = 1 := by rw [lgE, if_neg (by simpa using hQ), if_pos h4]
      rw [hG] at e1
      subst e1
      have HG := Lib.hid hG
      clear hQ hG hE
      by_cases p1 : n2 < 0
      · clear h4
        go_enter Try.func3, Try.ntmps3
        go_wp2_with fail
        refine (K.lag_no a0 l0 _ c0 n1 n2 _ h0 HE rfl).mono ?_
        rintro e w1 ⟨⟨B, d, rfl⟩, b1⟩
        replace h0 := h0.below b1
        replace hb := below_trans hb b1
        clear b1
        rw [HG.out]
        go_wp2_with fail
        refine (K.done_at a0 l0 _ c0 n1 n2 0 1 _ h0 HV rfl).mono ?_
        rintro e w2 ⟨rfl, bw2⟩
        replace h0 := h0.below bw2
        replace hb := below_trans hb bw2
        clear bw2
        go_wp2_with fail
        refine (rated_any a0 l0 c0 n1 _ h0).mono ?_
        rintro e w' ⟨rfl, rfl⟩
        rw [HQ.out]
        go_wp2
        go_ret
        exact ⟨rfl, hb⟩
      · have p2 : 1000000 < n2 := by omega
        clear h4
        go_enter Try.func3, Try.ntmps3
        go_wp2_with fail
        refine (K.lag_no a0 l0 _ c0 n1 n2 _ h0 HE rfl).mono ?_
        rintro e w1 ⟨⟨B, d, rfl⟩, b1⟩
        replace h0 := h0.below b1
        replace hb := below_trans hb b1
        clear b1
        rw [HG.out]
        go_wp2_with fail
        refine (K.done_at a0 l0 _ c0 n1 n2 0 1 _ h0 HV rfl).mono ?_
        rintro e w2 ⟨rfl, bw2⟩
        replace h0 := h0.below bw2
        replace hb := below_trans hb bw2
        clear bw2
        go_wp2_with fail
        refine (rated_any a0 l0 c0 n1 _ h0).mono ?_
        rintro e w' ⟨rfl, rfl⟩
        rw [HQ.out]
        go_wp2
        go_ret
        exact ⟨rfl, hb⟩
    · obtain ⟨Q, hq⟩ : ∃ Q, Q = linE l0 n1 := ⟨_, rfl⟩
      have hG : lgE l0 n1 n2 = Q := by rw [lgE, if_pos hQ, hq]
      rw [hG] at e1
      subst e1
      have HQ := Lib.hid hq.symm
      have HG := Lib.hid hG
      have e2 : (E != 0) = true := by rw [bne_iff_ne, hq]; exact hQ
      have e3 : (E == 0) = false := by rw [beq_eq_false_iff_ne, hq]; exact hQ
      clear hQ hG hE hq
      go_enter Try.func3, Try.ntmps3
      go_wp2_with fail
      refine (K.lag_no a0 l0 _ c0 n1 n2 _ h0 HE rfl).mono ?_
      rintro e w1 ⟨⟨B, d, rfl⟩, b1⟩
      replace h0 := h0.below b1
      replace hb := below_trans hb b1
      clear b1
      rw [HG.out]
      go_wp2_with fail
      refine (K.done_at a0 l0 _ c0 n1 n2 0 E _ h0 HV rfl).mono ?_
      rintro e w2 ⟨rfl, bw2⟩
      replace h0 := h0.below bw2
      replace hb := below_trans hb bw2
      clear bw2
      go_wp2_with fail
      refine (rated_any a0 l0 c0 n1 _ h0).mono ?_
      rintro e w' ⟨rfl, rfl⟩
      rw [HQ.out]
      go_wp2
      go_ret
      exact ⟨rfl, hb⟩

end Go.Proofs.Ytnjeelmlabefjaa
