
/-
  The walk of the law InverseGalois.
-/
import Derived.Test.YtgckndchndiffaaInvK
namespace Go.Proofs.Ytgckndchndiffaa
set_option linter.all false
open Go.RowKit Go.Shelf


theorem gal_lit : IsFst [0, 3, 3, 5] 3 1 := fst_lit (by decide) (by decide) (by decide)
theorem gal_lit' : IsLst [0, 3, 3, 5] 3 2 := lst_lit (a := 3) (by decide) (fst_lit (by decide) (by decide) (by decide)) (by decide)

set_option maxHeartbeats 3200000 in
theorem walk_InverseGalois (a0 : Option Addr) (c0 : Nat) (l0 : List Int) (m n : Int) (w : World)
    (h0 : Ints w a0 l0) (k0 : l0.length ≤ c0) (_hm : (Lit.int .i64 m).wf = true) (_hn : (Lit.int .i64 n).wf = true) :
    Calls Try.prog 7 #[.slice a0 l0.length c0, .int .i64 m, .int .i64 n] w fun e w' => e = .returned (.bool true) ∧ Below w.heap.size w w' := by
  have hb : Below w.heap.size w w := Below.refl _ _
  by_cases g : chk l0 = 0
  · have v0 := cv_of g
    have G := Lib.hid g
    clear g
    have hp := v0.pos
    have h61 := v0.le
    obtain ⟨q, hq⟩ := Int.eq_ofNat_of_zero_le (wi_nonneg n l0.length (by omega))
    have hq' : q < l0.length := by have := wi_lt n l0.length (by omega); omega
    obtain ⟨y, hy⟩ : ∃ y, y = wi m 1000001 := ⟨_, rfl⟩
    have y0 : 0 ≤ y := by rw [hy]; exact wi_nonneg _ _ (by omega)
    have y1 : y ≤ 1000000 := by have := wi_lt m 1000001 (by omega); omega
    have HQ := Lib.hid hq
    have HY := Lib.hid hy
    clear hq hy
    obtain ⟨a, ha⟩ := ex_fst l0 y
    obtain ⟨k, hk⟩ := ex_fst l0 (y + 1)
    have hb' := lst_of_fst v0 hk
    have ha' := ha.le
    have hk' := hk.le
    have hak : a ≤ k := fst_mono ha hk (by omega)
    have d1 : (a ≤ q ∧ y ≤ gt l0 q) ∨ (q < a ∧ gt l0 q < y) := by
      have := ha.galois v0 hq'
      by_cases p : a ≤ q
      · exact .inl ⟨p, this.1 p⟩
      · exact .inr ⟨by omega, by by_cases r : y ≤ gt l0 q; · exact absurd (this.2 r) p
                                 · omega⟩
    have d2 : (q < k ∧ gt l0 q ≤ y) ∨ (k ≤ q ∧ y < gt l0 q) := by
      have := hb'.galois v0 hq'
      by_cases p : q < k
      · exact .inl ⟨p, this.1 (by omega)⟩
      · exact .inr ⟨by omega, by by_cases r : gt l0 q ≤ y; · have := this.2 r; omega
                                 · omega⟩
    obtain ⟨z, hz⟩ : ∃ z, z = gt l0 q := ⟨_, rfl⟩
    rw [← hz] at d1 d2
    have HZ := Lib.hid hz
    clear hz
    go_enter Try.func7, Try.ntmps7
    go_wp2_with fail
    refine (lower_lit _ [0, 3, 3, 5] _ _ 3 1 _ (by exact Ints.lit _ _ _ _ rfl (by decide)) (by decide) (by decide) (by decide) gal_lit rfl).mono ?_
    rintro e w1 ⟨rfl, bw1⟩
    replace bw1 := below_of1 bw1
    replace h0 := h0.below bw1
    replace hb := below_trans hb bw1
    clear bw1
    go_wp2_with fail
    refine (upper_lit _ [0, 3, 3, 5] _ _ 3 2 _ (by exact Ints.lit _ _ _ _ rfl (by decide)) (by decide) (by decide) (by decide) gal_lit' rfl).mono ?_
    rintro e w2 ⟨rfl, bw2⟩
    replace bw2 := below_of1 bw2
    replace h0 := h0.below bw2
    replace hb := below_trans hb bw2
    clear bw2
    go_wp2_with fail
    refine (check_any a0 l0 c0 _ h0).mono ?_
    rintro e w' ⟨rfl, rfl⟩
    rw [G.out]
    go_wp2_with fail
    refine (within_any m 1000001 _ (by omega) (by omega)).mono ?_
    rintro e w' ⟨rfl, rfl⟩
    rw [← HY.out]
    go_wp2_with fail
    refine (within_any n l0.length _ (by omega) (by omega)).mono ?_
    rintro e w' ⟨rfl, rfl⟩
    rw [HQ.out]
    go_wp2_with fail
    refine (lower_yes a0 l0 _ c0 y a _ h0 v0 y0 y1 ha rfl).mono ?_
    rintro e w' ⟨rfl, rfl⟩
    go_wp2_with fail
    refine (upper_yes a0 l0 _ c0 y ((k : Int) - 1) _ h0 v0 y0 y1 hb' rfl).mono ?_
    rintro e w' ⟨rfl, rfl⟩
    obtain ⟨bb, off, rfl, hc⟩ := h0.2 hp
    have hcell : w2.cell? ⟨bb, off + q, none⟩ = some (.int .i64 z) := by rw [HZ.out]; exact hc q hq'
    clear hc ha hk hb'
    rcases d1 with ⟨p1, q1⟩ | ⟨p1, q1⟩ <;> rcases d2 with ⟨p2, q2⟩ | ⟨p2, q2⟩ <;> (go_wp2 <;> (go_ret; exact ⟨rfl, hb⟩))
  · have e1 : (chk l0 != 0) = true := by simp [g]
    clear g
    go_enter Try.func7, Try.ntmps7
    go_wp2_with fail
    refine (lower_lit _ [0, 3, 3, 5] _ _ 3 1 _ (by exact Ints.lit _ _ _ _ rfl (by decide)) (by decide) (by decide) (by decide) gal_lit rfl).mono ?_
    rintro e w1 ⟨rfl, bw1⟩
    replace bw1 := below_of1 bw1
    replace h0 := h0.below bw1
    replace hb := below_trans hb bw1
    clear bw1
    go_wp2_with fail
    refine (upper_lit _ [0, 3, 3, 5] _ _ 3 2 _ (by exact Ints.lit _ _ _ _ rfl (by decide)) (by decide) (by decide) (by decide) gal_lit' rfl).mono ?_
    rintro e w2 ⟨rfl, bw2⟩
    replace bw2 := below_of1 bw2
    replace h0 := h0.below bw2
    replace hb := below_trans hb bw2
    clear bw2
    go_wp2_with fail
    refine (check_any a0 l0 c0 _ h0).mono ?_
    rintro e w' ⟨rfl, rfl⟩
    go_wp2
    go_ret
    exact ⟨rfl, hb⟩

end Go.Proofs.Ytgckndchndiffaa
