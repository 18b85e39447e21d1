
/-
  The walk of the law ShareSays over the contracts of package share.
-/
import Derived.Test.YtjlkcjaofglpmaaShrR
import Derived.Test.YtjlkcjaofglpmaaPrA
namespace Go.Proofs.Ytjlkcjaofglpmaa
set_option linter.all false
open Go.RowKit Go.Shelf Go.Lib

def badL (n : Int) : Bool := decide (n < 0 ∨ 1000 < n)
set_option maxHeartbeats 400000 in
theorem shBad_pr : Pr 14 badL := by
  refine ⟨enters_of Try.func14 (by kernel_rfl) rfl, fun x w => ?_⟩
  by_cases h : x < 0
  · have H : Hid (badL x = true) := Lib.hid (decide_eq_true (.inl h))
    go_enter Try.func14, Try.ntmps14
    go_wp2
    go_ret
    exact ⟨ret_bool H.out.symm, rfl⟩
  · have H : Hid (decide (1000 < x) = badL x) := Lib.hid (by unfold badL; simp [h])
    go_enter Try.func14, Try.ntmps14
    go_wp2
    go_ret
    exact ⟨ret_bool H.out, rfl⟩
theorem lgs_any : ∀ l : List Int, l.any badL = !lgsB l
  | [] => rfl
  | n :: l => by
    have ih := lgs_any l
    unfold lgsB at ih ⊢
    rw [List.any_cons, List.all_cons, ih, badL]
    by_cases c : n < 0 ∨ 1000 < n
    · rw [decide_eq_true c, decide_eq_false (show ¬ (0 ≤ n ∧ n ≤ 1000) by omega)]; rfl
    · rw [decide_eq_false c, decide_eq_true (show 0 ≤ n ∧ n ≤ 1000 by omega)]; rfl
set_option maxRecDepth 100000 in
set_option maxHeartbeats 3200000 in
theorem v_ShareSays (K : ShrC) (a0 : Option Addr) (c0 : Nat) (l0 : List Int) (n1 : Int) (w : World)
    (h0 : Ints w a0 l0) (_k0 : l0.length ≤ c0) (_1 : (Lit.int .i64 n1).wf = true) :
    Calls Try.prog 3 #[.slice a0 l0.length c0, .int .i64 n1] w fun e w' => e = .returned (.bool true) ∧ Below w.heap.size w w' := by
  have hb : Below w.heap.size w w := Below.refl _ _
  have hlen := h0.1
  clear _k0 _1
  by_cases hE : shE l0 n1 = 0
  · have ok := sh_iff.1 hE
    have v := ok.lags
    have r0 := ok.r0
    have r1 := ok.r1
    have HE := Lib.hid hE
    have hle := v.le
    have HS : Hid (l0.any badL = false) := Lib.hid (by rw [lgs_any, lgs_iff.2 (fun i hi => ⟨v.lo i hi, v.hi i hi⟩)]; rfl)
    clear hE ok
    go_enter Try.func3, Try.ntmps3
    go_wp2_with fail
    refine (K.done_yes a0 l0 (shL l0 n1) _ l0.length c0 n1 _ h0 HE (Lib.hid rfl) rfl rfl).mono ?_
    rintro e w3 ⟨Ax, cx, rfl, hx, kx, bw3⟩
    replace h0 := h0.below bw3
    replace hb := below_trans hb bw3
    clear bw3
    go_wp2_with fail
    refine (containsFunc_any _ badL shBad_pr a0 l0 c0 _ h0).mono ?_
    rintro e w' ⟨rfl, rfl⟩
    rw [HS.out]
    go_wp2_with fail
    refine (K.check_at a0 l0 _ c0 n1 0 _ h0 HE rfl).mono ?_
    rintro e w4 ⟨rfl, bw4⟩
    replace h0 := h0.below bw4
    replace hx := hx.below bw4
    replace hb := below_trans hb bw4
    clear bw4
    go_wp2_with fail
    refine (K.check_at none [] _ 0 0 1 _ (Ints.nil_ _ _) (Lib.hid (by decide)) rfl).mono ?_
    rintro e w5 ⟨rfl, bw5⟩
    replace h0 := h0.below bw5
    replace hx := hx.below bw5
    replace hb := below_trans hb bw5
    clear bw5
    go_wp2_with fail
    refine (refShared_any a0 l0 _ c0 n1 _ h0 v r0 r1 rfl).mono ?_
    rintro e w6 ⟨Ay, cy, rfl, oy, bw6⟩
    replace h0 := h0.below bw6
    replace hx := hx.below bw6
    replace hb := below_trans hb bw6
    have hy := Ints.of_own oy
    clear bw6 oy
    go_wp2_with fail
    refine (equal_at Ax _ (shL l0 n1) (shL l0 n1) _ _ _ _ _ hx hy (length_shL _ _).symm rfl).mono ?_
    rintro e w7 ⟨rfl, nw7, hww7⟩
    have bw7 := below_of_drewN hww7
    clear hww7
    replace hb := below_trans hb bw7
    clear bw7
    rw [eqB_true rfl]
    go_wp2
    go_ret
    exact ⟨rfl, hb⟩
  · have HE := Lib.hid hE
    by_cases h1 : 8 < l0.length
    · have HV : Hid (shE l0 n1 = 2) := Lib.hid (by rw [shE, if_pos h1])
      have i1 : (8 : Int) < (l0.length : Int) := by omega
      clear hE h1
      go_enter Try.func3, Try.ntmps3
      go_wp2_with fail
      refine (K.done_no a0 l0 _ c0 n1 _ h0 HE rfl).mono ?_
      rintro e w3 ⟨⟨B, d, rfl⟩, b3⟩
      rw [HV.out]
      replace h0 := h0.below b3
      replace hb := below_trans hb b3
      clear b3
      go_wp2_with fail
      refine (K.check_at a0 l0 _ c0 n1 2 _ h0 HV rfl).mono ?_
      rintro e w4 ⟨rfl, bw4⟩
      replace h0 := h0.below bw4
      replace hb := below_trans hb bw4
      clear bw4
      go_wp2_with fail
      refine (K.check_at none [] _ 0 0 1 _ (Ints.nil_ _ _) (Lib.hid (by decide)) rfl).mono ?_
      rintro e w5 ⟨rfl, bw5⟩
      replace hb := below_trans hb bw5
      clear bw5
      go_wp2
      go_ret
      exact ⟨by simp, hb⟩
    · have i1 : ¬ (8 : Int) < (l0.length : Int) := by omega
      have HV : Hid (shE l0 n1 = 1) := Lib.hid (by
        rw [shE, if_neg h1]
        by_cases c : lgsB l0 = false ∨ n1 < 1 ∨ 10000 < n1
        · rw [if_pos c]
        · exact absurd (by rw [shE, if_neg h1, if_neg c]) hE)
      by_cases hs : lgsB l0 = true
      · have HS : Hid (l0.any badL = false) := Lib.hid (by rw [lgs_any, hs]; rfl)
        by_cases q : n1 < 1
        · clear hE h1 hs
          go_enter Try.func3, Try.ntmps3
          go_wp2_with fail
          refine (K.done_no a0 l0 _ c0 n1 _ h0 HE rfl).mono ?_
          rintro e w3 ⟨⟨B, d, rfl⟩, b3⟩
          rw [HV.out]
          replace h0 := h0.below b3
          replace hb := below_trans hb b3
          clear b3
          go_wp2_with fail
          refine (containsFunc_any _ badL shBad_pr a0 l0 c0 _ h0).mono ?_
          rintro e w' ⟨rfl, rfl⟩
          rw [HS.out]
          go_wp2_with fail
          refine (K.check_at a0 l0 _ c0 n1 1 _ h0 HV rfl).mono ?_
          rintro e w4 ⟨rfl, bw4⟩
          replace h0 := h0.below bw4
          replace hb := below_trans hb bw4
          clear bw4
          go_wp2_with fail
          refine (K.check_at none [] _ 0 0 1 _ (Ints.nil_ _ _) (Lib.hid (by decide)) rfl).mono ?_
          rintro e w5 ⟨rfl, bw5⟩
          replace hb := below_trans hb bw5
          clear bw5
          go_wp2
          go_ret
          exact ⟨by simp, hb⟩
        · have q2 : 10000 < n1 := by
            by_cases c : 10000 < n1
            · exact c
            · have nb : ¬ (lgsB l0 = false ∨ n1 < 1 ∨ 10000 < n1) := by
                rw [hs]
                rintro (k | k | k)
                · cases k
                · exact q k
                · exact c k
              exact absurd (by rw [shE, if_neg h1, if_neg nb]) hE
          clear hE h1 hs
          go_enter Try.func3, Try.ntmps3
          go_wp2_with fail
          refine (K.done_no a0 l0 _ c0 n1 _ h0 HE rfl).mono ?_
          rintro e w3 ⟨⟨B, d, rfl⟩, b3⟩
          rw [HV.out]
          replace h0 := h0.below b3
          replace hb := below_trans hb b3
          clear b3
          go_wp2_with fail
          refine (containsFunc_any _ badL shBad_pr a0 l0 c0 _ h0).mono ?_
          rintro e w' ⟨rfl, rfl⟩
          rw [HS.out]
          go_wp2_with fail
          refine (K.check_at a0 l0 _ c0 n1 1 _ h0 HV rfl).mono ?_
          rintro e w4 ⟨rfl, bw4⟩
          replace h0 := h0.below bw4
          replace hb := below_trans hb bw4
          clear bw4
          go_wp2_with fail
          refine (K.check_at none [] _ 0 0 1 _ (Ints.nil_ _ _) (Lib.hid (by decide)) rfl).mono ?_
          rintro e w5 ⟨rfl, bw5⟩
          replace hb := below_trans hb bw5
          clear bw5
          go_wp2
          go_ret
          exact ⟨by simp, hb⟩
      · have HS : Hid (l0.any badL = true) := Lib.hid (by rw [lgs_any, Bool.eq_false_iff.2 hs]; rfl)
        clear hE h1 hs
        go_enter Try.func3, Try.ntmps3
        go_wp2_with fail
        refine (K.done_no a0 l0 _ c0 n1 _ h0 HE rfl).mono ?_
        rintro e w3 ⟨⟨B, d, rfl⟩, b3⟩
        rw [HV.out]
        replace h0 := h0.below b3
        replace hb := below_trans hb b3
        clear b3
        go_wp2_with fail
        refine (containsFunc_any _ badL shBad_pr a0 l0 c0 _ h0).mono ?_
        rintro e w' ⟨rfl, rfl⟩
        rw [HS.out]
        go_wp2_with fail
        refine (K.check_at a0 l0 _ c0 n1 1 _ h0 HV rfl).mono ?_
        rintro e w4 ⟨rfl, bw4⟩
        replace h0 := h0.below bw4
        replace hb := below_trans hb bw4
        clear bw4
        go_wp2_with fail
        refine (K.check_at none [] _ 0 0 1 _ (Ints.nil_ _ _) (Lib.hid (by decide)) rfl).mono ?_
        rintro e w5 ⟨rfl, bw5⟩
        replace hb := below_trans hb bw5
        clear bw5
        go_wp2
        go_ret
        exact ⟨by simp, hb⟩

end Go.Proofs.Ytjlkcjaofglpmaa
