
/-
  The walk of the law PlanGalois over the contracts of package plan.
-/
import Derived.Test.YtnjeelmlabefjaaCatC
namespace Go.Proofs.Ytnjeelmlabefjaa
set_option linter.all false
open Go.RowKit Go.Shelf



theorem chk_vals (l : List Int) : chk l = 0 ∨ chk l = 1 ∨ chk l = 2 ∨ chk l = 3 := by
  have go : ∀ (l : List Int) (b : Int), chkGo b l = 0 ∨ chkGo b l = 1 ∨ chkGo b l = 2 ∨ chkGo b l = 3 := by
    intro l
    induction l with
    | nil => intro b; simp [chkGo]
    | cons x l ih =>
      intro b
      rw [chkGo]
      split
      · simp
      · split
        · simp
        · split
          · simp
          · exact ih x
  unfold chk
  split
  · simp
  · split
    · simp
    · exact go l _
theorem rt_vals (l : List Int) (g d : Int) : rtE l g d = 0 ∨ rtE l g d = 1 ∨ rtE l g d = 2 ∨ rtE l g d = 3 := by
  unfold rtE
  split
  · exact chk_vals l
  · split <;> simp
theorem rm_rt {l : List Int} {r g d : Int} (r0 : 0 ≤ r) (r1 : r ≤ 10000) (g0 : 0 ≤ g) (g1 : g ≤ 1000000) : rmE l r d = rtE l g d := by
  unfold rmE rtE
  split
  · rfl
  · by_cases c : d < 0 ∨ (l.length : Int) ≤ d
    · rw [if_pos (by omega), if_pos (by omega)]
    · rw [if_neg (by omega), if_neg (by omega)]

set_option maxRecDepth 100000 in
set_option maxHeartbeats 3200000 in
theorem v_PlanGalois (P : PlnC) (a0 : Option Addr) (c0 : Nat) (l0 : List Int) (n1 n2 n3 : Int) (w : World)
    (h0 : Ints w a0 l0) (_k0 : l0.length ≤ c0) (_1 : (Lit.int .i64 n1).wf = true) (_2 : (Lit.int .i64 n2).wf = true) (_3 : (Lit.int .i64 n3).wf = true) :
    Calls Try.prog 11 #[.slice a0 l0.length c0, .int .i64 n1, .int .i64 n2, .int .i64 n3] w fun e w' => e = .returned (.bool true) ∧ Below w.heap.size w w' := by
  have hb : Below w.heap.size w w := Below.refl _ _
  have KC := Lib.hid _k0
  clear _k0 _1 _2 _3
  have L1 : Hid (RmIs [0, 9] 2 1 0 0) := Lib.hid (rm_lit 1 0 (by decide) (by decide) (by decide))
  have L2 : Hid (RtIs [0, 9] 1 1 10 0) := Lib.hid (rt_lit 1 10 (by decide) (by decide) (by decide) (by decide))
  obtain ⟨R, hR⟩ : ∃ y, y = wi n1 10001 := ⟨_, rfl⟩
  have Rlo : 0 ≤ R := by rw [hR]; exact wi_nonneg _ _ (by omega)
  have Rhi : R < 10001 := by rw [hR]; exact wi_lt n1 10001 (by omega)
  have HR := Lib.hid hR
  clear hR
  obtain ⟨G, hG⟩ : ∃ y, y = wi n2 1000001 := ⟨_, rfl⟩
  have Glo : 0 ≤ G := by rw [hG]; exact wi_nonneg _ _ (by omega)
  have Ghi : G < 1000001 := by rw [hG]; exact wi_lt n2 1000001 (by omega)
  have HG := Lib.hid hG
  clear hG
  obtain ⟨v, E, hv⟩ := ex_rm l0 R n3
  obtain ⟨c, D, hc⟩ := ex_rt l0 G n3
  have HV := Lib.hid hv
  have HC := Lib.hid hc
  have ee : rmE l0 R n3 = rtE l0 G n3 := rm_rt Rlo (by omega) Glo (by omega)
  by_cases hE : rtE l0 G n3 = 0
  · have hM : rmE l0 R n3 = 0 := by rw [ee, hE]
    rcases hv with ⟨_, hv, rfl⟩ | ⟨_, hv, rfl, rfl⟩ | ⟨q, _⟩
    · rcases hc with ⟨_, hc, rfl⟩ | ⟨_, hc, rfl, rfl⟩ | ⟨q, _⟩
      · have G1 := plan_galois hv hc Glo Rlo
        by_cases q : G ≤ v
        · have q' := G1.1 q
          clear G1 hv hc ee hE hM
          go_enter Try.func11, Try.ntmps11
          go_wp2_with fail
          refine (P.room_at _ [0, 9] _ _ 2 1 0 0 _ (by exact Ints.lit _ [0, 9] _ _ rfl (by decide)) (by decide) L1 rfl).mono ?_
          rintro e w1 ⟨rfl, bw1⟩
          replace bw1 := below_of1 bw1
          replace h0 := h0.below bw1
          replace hb := below_trans hb bw1
          clear bw1
          go_wp2_with fail
          refine (P.rate_at _ [0, 9] _ _ 1 1 10 0 _ (by exact Ints.lit _ [0, 9] _ _ rfl (by decide)) L2 rfl).mono ?_
          rintro e w2 ⟨rfl, bw2⟩
          replace bw2 := below_of1 bw2
          replace h0 := h0.below bw2
          replace hb := below_trans hb bw2
          clear bw2
          go_wp2_with fail
          refine (within_any n1 10001 _ (by omega) (by omega)).mono ?_
          rintro e w' ⟨rfl, rfl⟩
          rw [← HR.out]
          go_wp2_with fail
          refine (within_any n2 1000001 _ (by omega) (by omega)).mono ?_
          rintro e w' ⟨rfl, rfl⟩
          rw [← HG.out]
          go_wp2_with fail
          refine (P.room_at a0 l0 _ c0 R n3 v 0 _ h0 KC.out HV rfl).mono ?_
          rintro e w3 ⟨rfl, bw3⟩
          replace h0 := h0.below bw3
          replace hb := below_trans hb bw3
          clear bw3
          go_wp2_with fail
          refine (P.rate_at a0 l0 _ c0 G n3 c 0 _ h0 HC rfl).mono ?_
          rintro e w4 ⟨rfl, bw4⟩
          replace hb := below_trans hb bw4
          clear bw4
          go_wp2
          go_ret
          exact ⟨ret_bool (by simp <;> omega), hb⟩
        · have q' : ¬ c ≤ R := fun k => q (G1.2 k)
          clear G1 hv hc ee hE hM
          go_enter Try.func11, Try.ntmps11
          go_wp2_with fail
          refine (P.room_at _ [0, 9] _ _ 2 1 0 0 _ (by exact Ints.lit _ [0, 9] _ _ rfl (by decide)) (by decide) L1 rfl).mono ?_
          rintro e w1 ⟨rfl, bw1⟩
          replace bw1 := below_of1 bw1
          replace h0 := h0.below bw1
          replace hb := below_trans hb bw1
          clear bw1
          go_wp2_with fail
          refine (P.rate_at _ [0, 9] _ _ 1 1 10 0 _ (by exact Ints.lit _ [0, 9] _ _ rfl (by decide)) L2 rfl).mono ?_
          rintro e w2 ⟨rfl, bw2⟩
          replace bw2 := below_of1 bw2
          replace h0 := h0.below bw2
          replace hb := below_trans hb bw2
          clear bw2
          go_wp2_with fail
          refine (within_any n1 10001 _ (by omega) (by omega)).mono ?_
          rintro e w' ⟨rfl, rfl⟩
          rw [← HR.out]
          go_wp2_with fail
          refine (within_any n2 1000001 _ (by omega) (by omega)).mono ?_
          rintro e w' ⟨rfl, rfl⟩
          rw [← HG.out]
          go_wp2_with fail
          refine (P.room_at a0 l0 _ c0 R n3 v 0 _ h0 KC.out HV rfl).mono ?_
          rintro e w3 ⟨rfl, bw3⟩
          replace h0 := h0.below bw3
          replace hb := below_trans hb bw3
          clear bw3
          go_wp2_with fail
          refine (P.rate_at a0 l0 _ c0 G n3 c 0 _ h0 HC rfl).mono ?_
          rintro e w4 ⟨rfl, bw4⟩
          replace hb := below_trans hb bw4
          clear bw4
          go_wp2
          go_ret
          exact ⟨ret_bool (by simp <;> omega), hb⟩
      · have q : ¬ G ≤ v := plan_none hv hc Glo Rlo (by omega)
        clear hv hc ee hE hM
        go_enter Try.func11, Try.ntmps11
        go_wp2_with fail
        refine (P.room_at _ [0, 9] _ _ 2 1 0 0 _ (by exact Ints.lit _ [0, 9] _ _ rfl (by decide)) (by decide) L1 rfl).mono ?_
        rintro e w1 ⟨rfl, bw1⟩
        replace bw1 := below_of1 bw1
        replace h0 := h0.below bw1
        replace hb := below_trans hb bw1
        clear bw1
        go_wp2_with fail
        refine (P.rate_at _ [0, 9] _ _ 1 1 10 0 _ (by exact Ints.lit _ [0, 9] _ _ rfl (by decide)) L2 rfl).mono ?_
        rintro e w2 ⟨rfl, bw2⟩
        replace bw2 := below_of1 bw2
        replace h0 := h0.below bw2
        replace hb := below_trans hb bw2
        clear bw2
        go_wp2_with fail
        refine (within_any n1 10001 _ (by omega) (by omega)).mono ?_
        rintro e w' ⟨rfl, rfl⟩
        rw [← HR.out]
        go_wp2_with fail
        refine (within_any n2 1000001 _ (by omega) (by omega)).mono ?_
        rintro e w' ⟨rfl, rfl⟩
        rw [← HG.out]
        go_wp2_with fail
        refine (P.room_at a0 l0 _ c0 R n3 v 0 _ h0 KC.out HV rfl).mono ?_
        rintro e w3 ⟨rfl, bw3⟩
        replace h0 := h0.below bw3
        replace hb := below_trans hb bw3
        clear bw3
        go_wp2_with fail
        refine (P.rate_at a0 l0 _ c0 G n3 0 5 _ h0 HC rfl).mono ?_
        rintro e w4 ⟨rfl, bw4⟩
        replace hb := below_trans hb bw4
        clear bw4
        go_wp2
        go_ret
        exact ⟨ret_bool (by simp <;> omega), hb⟩
      · exact absurd hE q
    · rcases hc with ⟨_, hc, rfl⟩ | ⟨_, hc, rfl, rfl⟩ | ⟨q, _⟩
      · have q : ¬ c ≤ R := fun k => hv G Glo ((hc.iff Rlo).2 k)
        clear hv hc ee hE hM
        go_enter Try.func11, Try.ntmps11
        go_wp2_with fail
        refine (P.room_at _ [0, 9] _ _ 2 1 0 0 _ (by exact Ints.lit _ [0, 9] _ _ rfl (by decide)) (by decide) L1 rfl).mono ?_
        rintro e w1 ⟨rfl, bw1⟩
        replace bw1 := below_of1 bw1
        replace h0 := h0.below bw1
        replace hb := below_trans hb bw1
        clear bw1
        go_wp2_with fail
        refine (P.rate_at _ [0, 9] _ _ 1 1 10 0 _ (by exact Ints.lit _ [0, 9] _ _ rfl (by decide)) L2 rfl).mono ?_
        rintro e w2 ⟨rfl, bw2⟩
        replace bw2 := below_of1 bw2
        replace h0 := h0.below bw2
        replace hb := below_trans hb bw2
        clear bw2
        go_wp2_with fail
        refine (within_any n1 10001 _ (by omega) (by omega)).mono ?_
        rintro e w' ⟨rfl, rfl⟩
        rw [← HR.out]
        go_wp2_with fail
        refine (within_any n2 1000001 _ (by omega) (by omega)).mono ?_
        rintro e w' ⟨rfl, rfl⟩
        rw [← HG.out]
        go_wp2_with fail
        refine (P.room_at a0 l0 _ c0 R n3 0 5 _ h0 KC.out HV rfl).mono ?_
        rintro e w3 ⟨rfl, bw3⟩
        replace h0 := h0.below bw3
        replace hb := below_trans hb bw3
        clear bw3
        go_wp2_with fail
        refine (P.rate_at a0 l0 _ c0 G n3 c 0 _ h0 HC rfl).mono ?_
        rintro e w4 ⟨rfl, bw4⟩
        replace hb := below_trans hb bw4
        clear bw4
        go_wp2
        go_ret
        exact ⟨ret_bool (by simp <;> omega), hb⟩
      · clear hv hc ee hE hM
        go_enter Try.func11, Try.ntmps11
        go_wp2_with fail
        refine (P.room_at _ [0, 9] _ _ 2 1 0 0 _ (by exact Ints.lit _ [0, 9] _ _ rfl (by decide)) (by decide) L1 rfl).mono ?_
        rintro e w1 ⟨rfl, bw1⟩
        replace bw1 := below_of1 bw1
        replace h0 := h0.below bw1
        replace hb := below_trans hb bw1
        clear bw1
        go_wp2_with fail
        refine (P.rate_at _ [0, 9] _ _ 1 1 10 0 _ (by exact Ints.lit _ [0, 9] _ _ rfl (by decide)) L2 rfl).mono ?_
        rintro e w2 ⟨rfl, bw2⟩
        replace bw2 := below_of1 bw2
        replace h0 := h0.below bw2
        replace hb := below_trans hb bw2
        clear bw2
        go_wp2_with fail
        refine (within_any n1 10001 _ (by omega) (by omega)).mono ?_
        rintro e w' ⟨rfl, rfl⟩
        rw [← HR.out]
        go_wp2_with fail
        refine (within_any n2 1000001 _ (by omega) (by omega)).mono ?_
        rintro e w' ⟨rfl, rfl⟩
        rw [← HG.out]
        go_wp2_with fail
        refine (P.room_at a0 l0 _ c0 R n3 0 5 _ h0 KC.out HV rfl).mono ?_
        rintro e w3 ⟨rfl, bw3⟩
        replace h0 := h0.below bw3
        replace hb := below_trans hb bw3
        clear bw3
        go_wp2_with fail
        refine (P.rate_at a0 l0 _ c0 G n3 0 5 _ h0 HC rfl).mono ?_
        rintro e w4 ⟨rfl, bw4⟩
        replace hb := below_trans hb bw4
        clear bw4
        go_wp2
        go_ret
        exact ⟨rfl, hb⟩
      · exact absurd hE q
    · exact absurd hM q
  · have hM : rmE l0 R n3 ≠ 0 := by rw [ee]; exact hE
    rcases hv with ⟨q, _⟩ | ⟨q, _⟩ | ⟨_, rfl, e1⟩
    · exact absurd q hM
    · exact absurd q hM
    rcases hc with ⟨q, _⟩ | ⟨q, _⟩ | ⟨_, rfl, e2⟩
    · exact absurd q hE
    · exact absurd q hE
    rw [ee] at e1
    rcases rt_vals l0 G n3 with q | q | q | q
    · exact absurd q hE
    all_goals
      rw [q] at e1 e2
      subst e1 e2
      clear ee hE hM q
    · skip
      go_enter Try.func11, Try.ntmps11
      go_wp2_with fail
      refine (P.room_at _ [0, 9] _ _ 2 1 0 0 _ (by exact Ints.lit _ [0, 9] _ _ rfl (by decide)) (by decide) L1 rfl).mono ?_
      rintro e w1 ⟨rfl, bw1⟩
      replace bw1 := below_of1 bw1
      replace h0 := h0.below bw1
      replace hb := below_trans hb bw1
      clear bw1
      go_wp2_with fail
      refine (P.rate_at _ [0, 9] _ _ 1 1 10 0 _ (by exact Ints.lit _ [0, 9] _ _ rfl (by decide)) L2 rfl).mono ?_
      rintro e w2 ⟨rfl, bw2⟩
      replace bw2 := below_of1 bw2
      replace h0 := h0.below bw2
      replace hb := below_trans hb bw2
      clear bw2
      go_wp2_with fail
      refine (within_any n1 10001 _ (by omega) (by omega)).mono ?_
      rintro e w' ⟨rfl, rfl⟩
      rw [← HR.out]
      go_wp2_with fail
      refine (within_any n2 1000001 _ (by omega) (by omega)).mono ?_
      rintro e w' ⟨rfl, rfl⟩
      rw [← HG.out]
      go_wp2_with fail
      refine (P.room_at a0 l0 _ c0 R n3 0 1 _ h0 KC.out HV rfl).mono ?_
      rintro e w3 ⟨rfl, bw3⟩
      replace h0 := h0.below bw3
      replace hb := below_trans hb bw3
      clear bw3
      go_wp2_with fail
      refine (P.rate_at a0 l0 _ c0 G n3 0 1 _ h0 HC rfl).mono ?_
      rintro e w4 ⟨rfl, bw4⟩
      replace hb := below_trans hb bw4
      clear bw4
      go_wp2
      go_ret
      exact ⟨rfl, hb⟩
    · skip
      go_enter Try.func11, Try.ntmps11
      go_wp2_with fail
      refine (P.room_at _ [0, 9] _ _ 2 1 0 0 _ (by exact Ints.lit _ [0, 9] _ _ rfl (by decide)) (by decide) L1 rfl).mono ?_
      rintro e w1 ⟨rfl, bw1⟩
      replace bw1 := below_of1 bw1
      replace h0 := h0.below bw1
      replace hb := below_trans hb bw1
      clear bw1
      go_wp2_with fail
      refine (P.rate_at _ [0, 9] _ _ 1 1 10 0 _ (by exact Ints.lit _ [0, 9] _ _ rfl (by decide)) L2 rfl).mono ?_
      rintro e w2 ⟨rfl, bw2⟩
      replace bw2 := below_of1 bw2
      replace h0 := h0.below bw2
      replace hb := below_trans hb bw2
      clear bw2
      go_wp2_with fail
      refine (within_any n1 10001 _ (by omega) (by omega)).mono ?_
      rintro e w' ⟨rfl, rfl⟩
      rw [← HR.out]
      go_wp2_with fail
      refine (within_any n2 1000001 _ (by omega) (by omega)).mono ?_
      rintro e w' ⟨rfl, rfl⟩
      rw [← HG.out]
      go_wp2_with fail
      refine (P.room_at a0 l0 _ c0 R n3 0 2 _ h0 KC.out HV rfl).mono ?_
      rintro e w3 ⟨rfl, bw3⟩
      replace h0 := h0.below bw3
      replace hb := below_trans hb bw3
      clear bw3
      go_wp2_with fail
      refine (P.rate_at a0 l0 _ c0 G n3 0 2 _ h0 HC rfl).mono ?_
      rintro e w4 ⟨rfl, bw4⟩
      replace hb := below_trans hb bw4
      clear bw4
      go_wp2
      go_ret
      exact ⟨rfl, hb⟩
    · skip
      go_enter Try.func11, Try.ntmps11
      go_wp2_with fail
      refine (P.room_at _ [0, 9] _ _ 2 1 0 0 _ (by exact Ints.lit _ [0, 9] _ _ rfl (by decide)) (by decide) L1 rfl).mono ?_
      rintro e w1 ⟨rfl, bw1⟩
      replace bw1 := below_of1 bw1
      replace h0 := h0.below bw1
      replace hb := below_trans hb bw1
      clear bw1
      go_wp2_with fail
      refine (P.rate_at _ [0, 9] _ _ 1 1 10 0 _ (by exact Ints.lit _ [0, 9] _ _ rfl (by decide)) L2 rfl).mono ?_
      rintro e w2 ⟨rfl, bw2⟩
      replace bw2 := below_of1 bw2
      replace h0 := h0.below bw2
      replace hb := below_trans hb bw2
      clear bw2
      go_wp2_with fail
      refine (within_any n1 10001 _ (by omega) (by omega)).mono ?_
      rintro e w' ⟨rfl, rfl⟩
      rw [← HR.out]
      go_wp2_with fail
      refine (within_any n2 1000001 _ (by omega) (by omega)).mono ?_
      rintro e w' ⟨rfl, rfl⟩
      rw [← HG.out]
      go_wp2_with fail
      refine (P.room_at a0 l0 _ c0 R n3 0 3 _ h0 KC.out HV rfl).mono ?_
      rintro e w3 ⟨rfl, bw3⟩
      replace h0 := h0.below bw3
      replace hb := below_trans hb bw3
      clear bw3
      go_wp2_with fail
      refine (P.rate_at a0 l0 _ c0 G n3 0 3 _ h0 HC rfl).mono ?_
      rintro e w4 ⟨rfl, bw4⟩
      replace hb := below_trans hb bw4
      clear bw4
      go_wp2
      go_ret
      exact ⟨rfl, hb⟩

end Go.Proofs.Ytnjeelmlabefjaa
