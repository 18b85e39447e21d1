
/-
  The walk of the law InverseBack.
-/
import Derived.Test.YtgckndchndiffaaInvK
namespace Go.Proofs.Ytgckndchndiffaa
set_option linter.all false
open Go.RowKit Go.Shelf

theorem back_lit : IsLst [4, 5] 3 (-1) := lst_lit (a := 0) (by decide) (fst_lit (by decide) (by decide) (by decide)) (by decide)

set_option maxHeartbeats 3200000 in
theorem walk_InverseBack (a0 : Option Addr) (c0 : Nat) (l0 : List Int) (n : Int) (w : World)
    (h0 : Ints w a0 l0) (_k0 : l0.length ≤ c0) (_hn : (Lit.int .i64 n).wf = true) :
    Calls Try.prog 11 #[.slice a0 l0.length c0, .int .i64 n] w fun e w' => e = .returned (.bool true) ∧ Below w.heap.size w w' := by
  have hb : Below w.heap.size w w := Below.refl _ _
  by_cases e : invE l0 n = 0
  · obtain ⟨v0, n0, n1⟩ := invE_zero e
    clear e
    obtain ⟨a, ha⟩ := ex_fst l0 n
    obtain ⟨k, hk⟩ := ex_fst l0 (n + 1)
    have hb' := lst_of_fst v0 hk
    have hl := v0.le
    have ha' := ha.le
    have hk' := hk.le
    go_enter Try.func11, Try.ntmps11
    go_wp2_with fail
    refine (upper_lit _ [4, 5] _ _ 3 (-1) _ (by exact Ints.lit _ _ _ _ rfl (by decide)) (by decide) (by decide) (by decide) back_lit rfl).mono ?_
    rintro e w1 ⟨rfl, bw1⟩
    replace bw1 := below_of1 bw1
    replace h0 := h0.below bw1
    replace hb := below_trans hb bw1
    clear bw1
    go_wp2_with fail
    refine (lower_yes a0 l0 _ c0 n a _ h0 v0 n0 n1 ha rfl).mono ?_
    rintro e w' ⟨rfl, rfl⟩
    go_wp2_with fail
    refine (upper_yes a0 l0 _ c0 n ((k : Int) - 1) _ h0 v0 n0 n1 hb' rfl).mono ?_
    rintro e w' ⟨rfl, rfl⟩
    obtain ⟨bb, off, rfl, hc⟩ := h0.2 v0.pos
    have d1 : ((a : Int) == (l0.length : Int)) = true ∨ (((a : Int) == (l0.length : Int)) = false ∧ a < l0.length ∧ ∃ x, w1.cell? ⟨bb, off + a, none⟩ = some (.int .i64 x) ∧ n ≤ x) := by
      by_cases q : a < l0.length
      · exact .inr ⟨by rw [beq_eq_false_iff_ne]; omega, q, gt l0 a, hc a q, ha.at_ q⟩
      · exact .inl (by rw [beq_iff_eq]; omega)
    have d2 : ((a : Int) == 0) = true ∨ (((a : Int) == 0) = false ∧ 0 < a ∧ ∃ x, w1.cell? ⟨bb, off + (a - 1), none⟩ = some (.int .i64 x) ∧ x < n) := by
      by_cases q : 0 < a
      · exact .inr ⟨by rw [beq_eq_false_iff_ne]; omega, q, gt l0 (a - 1), hc (a - 1) (by omega), ha.below (a - 1) (by omega)⟩
      · exact .inl (by rw [beq_iff_eq]; omega)
    have d3 : k ≤ 0 ∨ (0 < k ∧ ∃ x, w1.cell? ⟨bb, off + (k - 1), none⟩ = some (.int .i64 x) ∧ x ≤ n) := by
      by_cases q : 0 < k
      · exact .inr ⟨q, gt l0 (k - 1), hc (k - 1) (by omega), by have := hk.below (k - 1) (by omega); omega⟩
      · exact .inl (by omega)
    have d4 : ((k : Int) - 1 == (l0.length : Int) - 1) = true ∨ (((k : Int) - 1 == (l0.length : Int) - 1) = false ∧ k < l0.length ∧ ∃ x, w1.cell? ⟨bb, off + k, none⟩ = some (.int .i64 x) ∧ n < x) := by
      by_cases q : k < l0.length
      · exact .inr ⟨by rw [beq_eq_false_iff_ne]; omega, q, gt l0 k, hc k q, by have := hk.at_ q; omega⟩
      · exact .inl (by rw [beq_iff_eq]; omega)
    clear hc ha hk hb'
    rcases d1 with e1 | ⟨e1, p1, x1, c1, q1⟩ <;> rcases d2 with e2 | ⟨e2, p2, x2, c2, q2⟩ <;> rcases d3 with e3 | ⟨p3, x3, c3, q3⟩ <;> rcases d4 with e4 | ⟨e4, p4, x4, c4, q4⟩ <;> (go_wp2; go_ret; exact ⟨rfl, hb⟩)
  · have he := Lib.hid e
    have e1 : (invE l0 n != 0) = true := by simp [e]
    clear e
    go_enter Try.func11, Try.ntmps11
    go_wp2_with fail
    refine (upper_lit _ [4, 5] _ _ 3 (-1) _ (by exact Ints.lit _ _ _ _ rfl (by decide)) (by decide) (by decide) (by decide) back_lit rfl).mono ?_
    rintro e w1 ⟨rfl, bw1⟩
    replace bw1 := below_of1 bw1
    replace h0 := h0.below bw1
    replace hb := below_trans hb bw1
    clear bw1
    go_wp2_with fail
    refine (lower_no a0 l0 c0 n _ h0 he.out).mono ?_
    rintro e w' ⟨rfl, rfl⟩
    go_wp2_with fail
    refine (upper_no a0 l0 c0 n _ h0 he.out).mono ?_
    rintro e w' ⟨rfl, rfl⟩
    go_wp2
    go_ret
    exact ⟨by simp, hb⟩

end Go.Proofs.Ytgckndchndiffaa
