
/-
  The walk of the law InverseGrows.
-/
import Derived.Test.YtgckndchndiffaaInvK
namespace Go.Proofs.Ytgckndchndiffaa
set_option linter.all false
open Go.RowKit Go.Shelf


theorem grow_lit : IsFst [0, 3] 9 2 := fst_lit (by decide) (by decide) (by decide)

set_option maxHeartbeats 3200000 in
theorem walk_InverseGrows (a0 : Option Addr) (c0 : Nat) (l0 : List Int) (a1 : Option Addr) (c1 : Nat) (l1 : List Int) (m n : Int) (w : World)
    (h0 : Ints w a0 l0) (_k0 : l0.length ≤ c0) (h1 : Ints w a1 l1) (_k1 : l1.length ≤ c1) (_hm : (Lit.int .i64 m).wf = true) (_hn : (Lit.int .i64 n).wf = true) :
    Calls Try.prog 8 #[.slice a0 l0.length c0, .slice a1 l1.length c1, .int .i64 m, .int .i64 n] w fun e w' => e = .returned (.bool true) ∧ Below w.heap.size w w' := by
  have hb : Below w.heap.size w w := Below.refl _ _
  cases t1 : okB l0 l1
  · have T1 := Lib.hid t1
    clear t1
    go_enter Try.func8, Try.ntmps8
    go_wp2_with fail
    refine (lower_lit _ [0, 3] _ _ 9 2 _ (by exact Ints.lit _ _ _ _ rfl (by decide)) (by decide) (by decide) (by decide) grow_lit rfl).mono ?_
    rintro e w1 ⟨rfl, bw1⟩
    replace bw1 := below_of1 bw1
    replace h0 := h0.below bw1
    replace h1 := h1.below bw1
    replace hb := below_trans hb bw1
    clear bw1
    go_wp2_with fail
    refine (both_any a0 a1 l0 l1 c0 c1 _ h0 h1).mono ?_
    rintro e w' ⟨rfl, rfl⟩
    rw [T1.out]
    go_wp2
    go_ret
    exact ⟨rfl, hb⟩
  obtain ⟨v0, v1, e01⟩ := chk2_iff.1 (chk2_of_okB t1)
  have T1 := Lib.hid t1
  clear t1
  have E := Lib.hid e01
  clear e01
  obtain ⟨y, hy⟩ : ∃ y, y = wi m 1000001 := ⟨_, rfl⟩
  have y0 : 0 ≤ y := by rw [hy]; exact wi_nonneg _ _ (by omega)
  have y1 : y ≤ 1000000 := by have := wi_lt m 1000001 (by omega); omega
  obtain ⟨z, hz⟩ : ∃ z, z = wi n 1000001 := ⟨_, rfl⟩
  have z0 : 0 ≤ z := by rw [hz]; exact wi_nonneg _ _ (by omega)
  have z1 : z ≤ 1000000 := by have := wi_lt n 1000001 (by omega); omega
  have HY := Lib.hid hy
  have HZ := Lib.hid hz
  clear hy hz
  rcases Int.lt_trichotomy y z with yz | rfl | yz
  · obtain ⟨p, hp⟩ := ex_fst l0 y
    obtain ⟨q, hq⟩ := ex_fst l0 z
    obtain ⟨r, hr⟩ := ex_lst l0 y
    obtain ⟨s, hs⟩ := ex_lst l0 z
    obtain ⟨x, hx⟩ := ex_fst l1 y
    have hpq : p ≤ q := fst_mono hp hq (by omega)
    have hrs : r ≤ s := lst_mono hr hs (by omega)
    have XP : Hid (leK l0 l1 = true → x ≤ p) := Lib.hid (fun e => by
      have e' := E.out
      unfold leK at e
      simp only [Bool.and_eq_true] at e
      exact fst_anti hp hx e' ((leB_iff e').1 e.2))
    go_enter Try.func8, Try.ntmps8
    go_wp2_with fail
    refine (lower_lit _ [0, 3] _ _ 9 2 _ (by exact Ints.lit _ _ _ _ rfl (by decide)) (by decide) (by decide) (by decide) grow_lit rfl).mono ?_
    rintro e w1 ⟨rfl, bw1⟩
    replace bw1 := below_of1 bw1
    replace h0 := h0.below bw1
    replace h1 := h1.below bw1
    replace hb := below_trans hb bw1
    clear bw1
    go_wp2_with fail
    refine (both_any a0 a1 l0 l1 c0 c1 _ h0 h1).mono ?_
    rintro e w' ⟨rfl, rfl⟩
    rw [T1.out]
    go_wp2_with fail
    refine (within_any m 1000001 _ (by omega) (by omega)).mono ?_
    rintro e w' ⟨rfl, rfl⟩
    rw [← HY.out]
    go_wp2_with fail
    refine (within_any n 1000001 _ (by omega) (by omega)).mono ?_
    rintro e w' ⟨rfl, rfl⟩
    rw [← HZ.out]
    go_wp2_with fail
    refine (lower_yes a0 l0 _ c0 y p _ h0 v0 y0 y1 hp rfl).mono ?_
    rintro e w' ⟨rfl, rfl⟩
    go_wp2_with fail
    refine (lower_yes a0 l0 _ c0 z q _ h0 v0 z0 z1 hq rfl).mono ?_
    rintro e w' ⟨rfl, rfl⟩
    go_wp2_with fail
    refine (upper_yes a0 l0 _ c0 y r _ h0 v0 y0 y1 hr rfl).mono ?_
    rintro e w' ⟨rfl, rfl⟩
    go_wp2_with fail
    refine (upper_yes a0 l0 _ c0 z s _ h0 v0 z0 z1 hs rfl).mono ?_
    rintro e w' ⟨rfl, rfl⟩
    go_wp2_with fail
    refine (lower_yes a1 l1 _ c1 y x _ h1 v1 y0 y1 hx rfl).mono ?_
    rintro e w' ⟨rfl, rfl⟩
    go_wp2_with fail
    refine (kle_any a0 a1 l0 l1 c0 c1 _ h0 h1).mono ?_
    rintro e w3 ⟨rfl, nw3, hww3⟩
    have bw3 := below_of_drewN hww3
    clear hww3
    replace hb := below_trans hb bw3
    clear bw3
    cases e : leK l0 l1
    · go_wp2
      go_ret
      exact ⟨rfl, hb⟩
    · have hxp := XP.out e
      clear e
      go_wp2
      go_ret
      exact ⟨rfl, hb⟩
  · obtain ⟨p, hp⟩ := ex_fst l0 y
    obtain ⟨q, hq⟩ := ex_fst l0 y
    obtain ⟨r, hr⟩ := ex_lst l0 y
    obtain ⟨s, hs⟩ := ex_lst l0 y
    obtain ⟨x, hx⟩ := ex_fst l1 y
    have hpq : p ≤ q := fst_mono hp hq (by omega)
    have hrs : r ≤ s := lst_mono hr hs (by omega)
    have XP : Hid (leK l0 l1 = true → x ≤ p) := Lib.hid (fun e => by
      have e' := E.out
      unfold leK at e
      simp only [Bool.and_eq_true] at e
      exact fst_anti hp hx e' ((leB_iff e').1 e.2))
    go_enter Try.func8, Try.ntmps8
    go_wp2_with fail
    refine (lower_lit _ [0, 3] _ _ 9 2 _ (by exact Ints.lit _ _ _ _ rfl (by decide)) (by decide) (by decide) (by decide) grow_lit rfl).mono ?_
    rintro e w1 ⟨rfl, bw1⟩
    replace bw1 := below_of1 bw1
    replace h0 := h0.below bw1
    replace h1 := h1.below bw1
    replace hb := below_trans hb bw1
    clear bw1
    go_wp2_with fail
    refine (both_any a0 a1 l0 l1 c0 c1 _ h0 h1).mono ?_
    rintro e w' ⟨rfl, rfl⟩
    rw [T1.out]
    go_wp2_with fail
    refine (within_any m 1000001 _ (by omega) (by omega)).mono ?_
    rintro e w' ⟨rfl, rfl⟩
    rw [← HY.out]
    go_wp2_with fail
    refine (within_any n 1000001 _ (by omega) (by omega)).mono ?_
    rintro e w' ⟨rfl, rfl⟩
    rw [← HZ.out]
    go_wp2_with fail
    refine (lower_yes a0 l0 _ c0 y p _ h0 v0 y0 y1 hp rfl).mono ?_
    rintro e w' ⟨rfl, rfl⟩
    go_wp2_with fail
    refine (lower_yes a0 l0 _ c0 y q _ h0 v0 y0 y1 hq rfl).mono ?_
    rintro e w' ⟨rfl, rfl⟩
    go_wp2_with fail
    refine (upper_yes a0 l0 _ c0 y r _ h0 v0 y0 y1 hr rfl).mono ?_
    rintro e w' ⟨rfl, rfl⟩
    go_wp2_with fail
    refine (upper_yes a0 l0 _ c0 y s _ h0 v0 y0 y1 hs rfl).mono ?_
    rintro e w' ⟨rfl, rfl⟩
    go_wp2_with fail
    refine (lower_yes a1 l1 _ c1 y x _ h1 v1 y0 y1 hx rfl).mono ?_
    rintro e w' ⟨rfl, rfl⟩
    go_wp2_with fail
    refine (kle_any a0 a1 l0 l1 c0 c1 _ h0 h1).mono ?_
    rintro e w3 ⟨rfl, nw3, hww3⟩
    have bw3 := below_of_drewN hww3
    clear hww3
    replace hb := below_trans hb bw3
    clear bw3
    cases e : leK l0 l1
    · go_wp2
      go_ret
      exact ⟨rfl, hb⟩
    · have hxp := XP.out e
      clear e
      go_wp2
      go_ret
      exact ⟨rfl, hb⟩
  · obtain ⟨p, hp⟩ := ex_fst l0 z
    obtain ⟨q, hq⟩ := ex_fst l0 y
    obtain ⟨r, hr⟩ := ex_lst l0 z
    obtain ⟨s, hs⟩ := ex_lst l0 y
    obtain ⟨x, hx⟩ := ex_fst l1 z
    have hpq : p ≤ q := fst_mono hp hq (by omega)
    have hrs : r ≤ s := lst_mono hr hs (by omega)
    have XP : Hid (leK l0 l1 = true → x ≤ p) := Lib.hid (fun e => by
      have e' := E.out
      unfold leK at e
      simp only [Bool.and_eq_true] at e
      exact fst_anti hp hx e' ((leB_iff e').1 e.2))
    go_enter Try.func8, Try.ntmps8
    go_wp2_with fail
    refine (lower_lit _ [0, 3] _ _ 9 2 _ (by exact Ints.lit _ _ _ _ rfl (by decide)) (by decide) (by decide) (by decide) grow_lit rfl).mono ?_
    rintro e w1 ⟨rfl, bw1⟩
    replace bw1 := below_of1 bw1
    replace h0 := h0.below bw1
    replace h1 := h1.below bw1
    replace hb := below_trans hb bw1
    clear bw1
    go_wp2_with fail
    refine (both_any a0 a1 l0 l1 c0 c1 _ h0 h1).mono ?_
    rintro e w' ⟨rfl, rfl⟩
    rw [T1.out]
    go_wp2_with fail
    refine (within_any m 1000001 _ (by omega) (by omega)).mono ?_
    rintro e w' ⟨rfl, rfl⟩
    rw [← HY.out]
    go_wp2_with fail
    refine (within_any n 1000001 _ (by omega) (by omega)).mono ?_
    rintro e w' ⟨rfl, rfl⟩
    rw [← HZ.out]
    go_wp2_with fail
    refine (lower_yes a0 l0 _ c0 z p _ h0 v0 z0 z1 hp rfl).mono ?_
    rintro e w' ⟨rfl, rfl⟩
    go_wp2_with fail
    refine (lower_yes a0 l0 _ c0 y q _ h0 v0 y0 y1 hq rfl).mono ?_
    rintro e w' ⟨rfl, rfl⟩
    go_wp2_with fail
    refine (upper_yes a0 l0 _ c0 z r _ h0 v0 z0 z1 hr rfl).mono ?_
    rintro e w' ⟨rfl, rfl⟩
    go_wp2_with fail
    refine (upper_yes a0 l0 _ c0 y s _ h0 v0 y0 y1 hs rfl).mono ?_
    rintro e w' ⟨rfl, rfl⟩
    go_wp2_with fail
    refine (lower_yes a1 l1 _ c1 z x _ h1 v1 z0 z1 hx rfl).mono ?_
    rintro e w' ⟨rfl, rfl⟩
    go_wp2_with fail
    refine (kle_any a0 a1 l0 l1 c0 c1 _ h0 h1).mono ?_
    rintro e w3 ⟨rfl, nw3, hww3⟩
    have bw3 := below_of_drewN hww3
    clear hww3
    replace hb := below_trans hb bw3
    clear bw3
    cases e : leK l0 l1
    · go_wp2
      go_ret
      exact ⟨rfl, hb⟩
    · have hxp := XP.out e
      clear e
      go_wp2
      go_ret
      exact ⟨rfl, hb⟩

end Go.Proofs.Ytgckndchndiffaa
