
/-
  The walk of the law FairSays.
-/
import Derived.Test.YtamkadffencpgaaFairW
namespace Go.Proofs.Ytamkadffencpgaa
set_option linter.all false
open Go.RowKit Go.Shelf Go.Lib

theorem nil_fwE : fwE [] [] = 4 := by decide
set_option maxRecDepth 100000 in
set_option maxHeartbeats 6400000 in
theorem walk_FairSays (a0 : Option Addr) (c0 : Nat) (l0 : List Int) (a1 : Option Addr) (c1 : Nat) (l1 : List Pk) (w : World)
    (h0 : Ints w a0 l0) (_k0 : l0.length ≤ c0) (h1 : Pks w a1 l1) (_k1 : l1.length ≤ c1) :
    Calls Try.prog 3 #[.slice a0 l0.length c0, .slice a1 l1.length c1] w fun e w' => e = .returned (.bool true) ∧ Below w.heap.size w w' := by
  have hb : Below w.heap.size w w := Below.refl _ _
  clear _k0 _k1
  by_cases hE : fwE l0 l1 = 0
  · obtain ⟨hv, hpe⟩ := fwE_ok hE
    have q := qu_of hpe
    have HE := Lib.hid hE
    have HV := Lib.hid hv.len
    have hle := q.le
    clear hE hpe
    go_enter Try.func3, Try.ntmps3
    go_wp2_with fail
    refine (frun_fair a0 a1 l0 l1 _ _ c0 c1 _ h0 h1 HE rfl rfl).mono ?_
    rintro e w1 ⟨x, C, k, hx, rfl, ox, b1⟩
    have xl := hx.1
    have HX := Lib.hid hx
    have XL := Lib.hid xl
    have hX : Ints w1 C (nts x) := by
      have := ox
      rw [← length_nts x] at this
      exact Ints.of_own this
    replace h0 := h0.below b1
    replace h1 := h1.below b1
    replace hb := below_trans hb b1
    clear ox hx xl
    go_wp2_with fail
    refine (refWeights_any a0 a1 l0 l1 c0 c1 _ h0 h1).mono ?_
    rintro e w3 ⟨rfl, b3⟩
    replace h0 := h0.below b3
    replace h1 := h1.below b3
    replace hb := below_trans hb b3
    go_wp2_with fail
    refine (fcheck_any a0 a1 l0 l1 c0 c1 _ h0 h1).mono ?_
    rintro e w4 ⟨rfl, b4⟩
    replace h0 := h0.below b4
    replace h1 := h1.below b4
    replace hb := below_trans hb b4
    go_wp2_with fail
    refine (fcheck_any none none [] [] 0 0 _ (Ints.nil_ _ _) (Pks.nil_ _ _)).mono ?_
    rintro e w5 ⟨rfl, b5⟩
    rw [nil_fwE]
    replace h0 := h0.below b5
    replace h1 := h1.below b5
    replace hb := below_trans hb b5
    replace hX := ((hX.below b3).below b4).below b5
    rw [HE.out]
    have href := refFair_any a0 a1 l0 l1 c0 c1 w5 h0 h1 hv q
    rw [← HV.out] at href
    clear b1 b3 b4 b5
    go_wp2_with fail
    refine href.mono ?_
    rintro e w6 ⟨y, D, m, hy, rfl, oy, b6⟩
    obtain rfl : y = x := hy.uniq q hv HX.out
    have hY : Ints w6 D (nts y) := by
      have := oy
      rw [← length_nts y] at this
      exact Ints.of_own this
    replace hX := hX.below b6
    replace h0 := h0.below b6
    replace h1 := h1.below b6
    replace hb := below_trans hb b6
    clear href oy b6
    go_wp2_with fail
    refine (equal_at C D (nts y) (nts y) _ _ _ _ _ hX hY (length_nts y).symm (length_nts y).symm).mono ?_
    rintro e w7 ⟨rfl, n7, hw7⟩
    have b7 := below_of_drewN hw7
    rw [eqB_true rfl]
    replace h0 := h0.below b7
    replace h1 := h1.below b7
    replace hb := below_trans hb b7
    clear hw7 b7
    go_wp2
    go_ret
    exact ⟨rfl, hb⟩
  · have e1 : (fwE l0 l1 != 0) = true := by simp [hE]
    go_enter Try.func3, Try.ntmps3
    go_wp2_with fail
    refine (frun_fair_no a0 a1 l0 l1 _ _ c0 c1 _ h0 h1 hE rfl rfl).mono ?_
    rintro e w1 ⟨rfl, b1⟩
    replace h0 := h0.below b1
    replace h1 := h1.below b1
    replace hb := below_trans hb b1
    clear b1
    go_wp2_with fail
    refine (refWeights_any a0 a1 l0 l1 c0 c1 _ h0 h1).mono ?_
    rintro e w3 ⟨rfl, b3⟩
    replace h0 := h0.below b3
    replace h1 := h1.below b3
    replace hb := below_trans hb b3
    go_wp2_with fail
    refine (fcheck_any a0 a1 l0 l1 c0 c1 _ h0 h1).mono ?_
    rintro e w4 ⟨rfl, b4⟩
    replace h0 := h0.below b4
    replace h1 := h1.below b4
    replace hb := below_trans hb b4
    go_wp2_with fail
    refine (fcheck_any none none [] [] 0 0 _ (Ints.nil_ _ _) (Pks.nil_ _ _)).mono ?_
    rintro e w5 ⟨rfl, b5⟩
    rw [nil_fwE]
    replace h0 := h0.below b5
    replace h1 := h1.below b5
    replace hb := below_trans hb b5
    clear b3 b4 b5
    go_wp2
    go_ret
    exact ⟨rfl, hb⟩

end Go.Proofs.Ytamkadffencpgaa
