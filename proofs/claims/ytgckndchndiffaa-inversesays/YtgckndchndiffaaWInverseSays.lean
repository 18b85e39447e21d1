
/-
  The walk of the law InverseSays.
-/
import Derived.Test.YtgckndchndiffaaInvA
namespace Go.Proofs.Ytgckndchndiffaa
set_option linter.all false
open Go.RowKit

set_option maxHeartbeats 1600000 in
theorem walk_InverseSays (a0 : Option Addr) (c0 : Nat) (l0 : List Int) (n : Int) (w : World)
    (h0 : Ints w a0 l0) (_k0 : l0.length ≤ c0) (_hn : (Lit.int .i64 n).wf = true) :
    Calls Try.prog 3 #[.slice a0 l0.length c0, .int .i64 n] w fun e w' => e = .returned (.bool true) ∧ Below w.heap.size w w' := by
  have hb : Below w.heap.size w w := Below.refl _ _
  by_cases e : invE l0 n = 0
  · obtain ⟨v0, n0, n1⟩ := invE_zero e
    clear e
    obtain ⟨a, ha⟩ := ex_fst l0 n
    obtain ⟨b, hb'⟩ := ex_lst l0 n
    have G : Hid (chk l0 = 0) := Lib.hid (chk_iff.2 v0)
    have hl := v0.le
    go_enter Try.func3, Try.ntmps3
    go_wp2_with fail
    refine (lower_yes a0 l0 _ c0 n a _ h0 v0 n0 n1 ha rfl).mono ?_
    rintro e w' ⟨rfl, rfl⟩
    go_wp2_with fail
    refine (upper_yes a0 l0 _ c0 n b _ h0 v0 n0 n1 hb' rfl).mono ?_
    rintro e w' ⟨rfl, rfl⟩
    go_wp2_with fail
    refine (refCurve_any a0 l0 c0 _ h0).mono ?_
    rintro e w' ⟨rfl, rfl⟩
    rw [G.out]
    go_wp2_with fail
    refine (refFirst_any a0 l0 c0 n a _ h0 hl ha).mono ?_
    rintro e w' ⟨rfl, rfl⟩
    go_wp2_with fail
    refine (refLast_any a0 l0 c0 n b _ h0 hl hb').mono ?_
    rintro e w' ⟨rfl, rfl⟩
    go_wp2
    go_ret
    exact ⟨by simp, hb⟩
  · have he := Lib.hid e
    by_cases g : chk l0 = 0
    · have e1 : (chk l0 == 0) = true := by simp [g]
      have HI : Hid (invE l0 n = 1) := Lib.hid (by
        unfold invE at e ⊢
        rw [if_neg (by simpa using g)] at e ⊢
        by_cases q : n < 0 ∨ 1000000 < n
        · rw [if_pos q]
        · rw [if_neg q] at e; exact absurd rfl e)
      have hn : n < 0 ∨ 1000000 < n := by
        by_cases q : n < 0 ∨ 1000000 < n
        · exact q
        · exact absurd (invE_of (cv_of g) (by omega) (by omega)) e
      clear e g
      rcases hn with q | q
      · go_enter Try.func3, Try.ntmps3
        go_wp2_with fail
        refine (lower_no a0 l0 c0 n _ h0 he.out).mono ?_
        rintro e w' ⟨rfl, rfl⟩
        go_wp2_with fail
        refine (upper_no a0 l0 c0 n _ h0 he.out).mono ?_
        rintro e w' ⟨rfl, rfl⟩
        rw [HI.out]
        go_wp2_with fail
        refine (refCurve_any a0 l0 c0 _ h0).mono ?_
        rintro e w' ⟨rfl, rfl⟩
        go_wp2
        go_ret
        exact ⟨by simp, hb⟩
      · have q' : decide (n < 0) = false := decide_eq_false (by omega)
        go_enter Try.func3, Try.ntmps3
        go_wp2_with fail
        refine (lower_no a0 l0 c0 n _ h0 he.out).mono ?_
        rintro e w' ⟨rfl, rfl⟩
        go_wp2_with fail
        refine (upper_no a0 l0 c0 n _ h0 he.out).mono ?_
        rintro e w' ⟨rfl, rfl⟩
        rw [HI.out]
        go_wp2_with fail
        refine (refCurve_any a0 l0 c0 _ h0).mono ?_
        rintro e w' ⟨rfl, rfl⟩
        go_wp2
        go_ret
        exact ⟨by simp, hb⟩
    · have e1 : (chk l0 == 0) = false := by simp [g]
      have e2 : (chk l0 != 0) = true := by simp [g]
      have HI : Hid (invE l0 n = chk l0) := Lib.hid (by unfold invE; rw [if_pos g])
      clear e g
      go_enter Try.func3, Try.ntmps3
      go_wp2_with fail
      refine (lower_no a0 l0 c0 n _ h0 he.out).mono ?_
      rintro e w' ⟨rfl, rfl⟩
      go_wp2_with fail
      refine (upper_no a0 l0 c0 n _ h0 he.out).mono ?_
      rintro e w' ⟨rfl, rfl⟩
      rw [HI.out]
      go_wp2_with fail
      refine (refCurve_any a0 l0 c0 _ h0).mono ?_
      rintro e w' ⟨rfl, rfl⟩
      go_wp2
      go_ret
      exact ⟨by simp, hb⟩

end Go.Proofs.Ytgckndchndiffaa
