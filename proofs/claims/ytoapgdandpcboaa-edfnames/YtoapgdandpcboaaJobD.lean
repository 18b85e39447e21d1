
/-
  What package edf owes, at lists that are written out.
-/
import Derived.Test.YtoapgdandpcboaaJobC
namespace Go.Proofs.Ytoapgdandpcboaa
set_option linter.all false
open Go.RowKit Go.Shelf Go.Lib

theorem none_of {l : List Jb} (h : ∀ i, i < l.length → edL l ((jb l i).due).toNat i = 0) : ∀ i, ¬ IsLate l i := fun i hi => hi.2.1 (h i hi.1)
theorem late_none (E : EdfC) (A : Option Addr) (l : List Jb) (n c : Nat) (w : World) (h : Jbs w A l) (hE : jbsE l = 0) (hn : ∀ i, ¬ IsLate l i) (hl : n = l.length) :
    Calls Try.prog 11 #[.slice A n c] w fun e w' => e = .returned (.tuple #[.int .i64 0, .int .i64 5]) ∧ Below w.heap.size w w' := by
  subst hl
  refine (E.late A l c w h hE).mono ?_
  rintro e w' ⟨⟨i, hi, _⟩ | ⟨_, e⟩, b⟩
  · exact absurd hi (hn i)
  · exact ⟨e, b⟩
theorem late_at (E : EdfC) (A : Option Addr) (l : List Jb) (n c i : Nat) (w : World) (h : Jbs w A l) (hE : jbsE l = 0) (hi : IsLate l i) (hl : n = l.length) :
    Calls Try.prog 11 #[.slice A n c] w fun e w' => e = .returned (.tuple #[.int .i64 i, .int .i64 0]) ∧ Below w.heap.size w w' := by
  subst hl
  refine (E.late A l c w h hE).mono ?_
  rintro e w' ⟨⟨k, hk, e⟩ | ⟨hn, _⟩, b⟩
  · obtain rfl := hk.uniq hi
    exact ⟨e, b⟩
  · exact absurd hi (hn i)
theorem fits_at (E : EdfC) (A : Option Addr) (l : List Jb) (s : Bool) (n c : Nat) (w : World) (h : Jbs w A l) (hE : jbsE l = 0) (hs : Hid (demB l = s)) (hl : n = l.length) :
    Calls Try.prog 16 #[.slice A n c] w fun e w' => e = .returned (.tuple #[.bool s, .int .i64 0]) ∧ Below w.heap.size w w' := by
  subst hl
  have := E.fits A l c w h hE
  rwa [hs.out] at this
theorem demB_of {l : List Jb} (hE : jbsE l = 0) (h : ∀ i, i < l.length → edL l ((jb l i).due).toNat i = 0) : demB l = true := demB_true ((none_late (jbs_iff.1 hE).toJobs).mp (none_of h))
theorem demB_not {l : List Jb} (s t : Int) (hst : s ≤ t) (h : ¬ demV l s t ≤ t - s) : demB l = false := demB_false (fun d => h (d s t hst))

set_option maxRecDepth 100000 in
set_option maxHeartbeats 1600000 in
theorem v_EdfFits (E : EdfC) (a0 : Option Addr) (c0 : Nat) (l0 : List Jb) (w : World) (h0 : Jbs w a0 l0) (_k0 : l0.length ≤ c0) :
    Calls Try.prog 4 #[.slice a0 l0.length c0] w fun e w' => e = .returned (.bool true) ∧ Below w.heap.size w w' := by
  by_cases hE : jbsE l0 = 0
  · have j := jbs_iff.1 hE
    have HE := Lib.hid hE
    have hfit := E.fits a0 l0 c0 w h0 hE
    clear hE
    cases q : demB l0
    all_goals
      rw [q] at hfit
      have HQ := Lib.hid q
      clear q
      go_enter Try.func4, Try.ntmps4
      go_wp2_with fail
      refine hfit.mono ?_
      rintro e w1 ⟨rfl, b1⟩
      go_wp2_with fail
      refine (refJobs_any a0 l0 c0 _ (h0.below b1)).mono ?_
      rintro e w2 ⟨rfl, b2⟩
      rw [HE.out]
      go_wp2_with fail
      refine (refDemand_any a0 l0 c0 _ ((h0.below b1).below b2) j).mono ?_
      rintro e w3 ⟨rfl, b3⟩
      rw [HQ.out]
      go_wp2
      go_ret
      exact ⟨rfl, below_trans b1 (below_trans b2 b3)⟩
  · have e1 : (jbsE l0 != 0) = true := by simp [hE]
    go_enter Try.func4, Try.ntmps4
    go_wp2_with fail
    refine (E.fits_no a0 l0 c0 _ h0 hE).mono ?_
    rintro e w1 ⟨rfl, b1⟩
    go_wp2_with fail
    refine (refJobs_any a0 l0 c0 _ (h0.below b1)).mono ?_
    rintro e w2 ⟨rfl, b2⟩
    go_wp2
    go_ret
    exact ⟨rfl, below_trans b1 b2⟩

abbrev jl1 : List Jb := [⟨0, 1, 1⟩, ⟨0, 1, 2⟩]
abbrev jl2 : List Jb := [⟨0, 1, 1⟩, ⟨0, 1, 1⟩]
abbrev jl3 : List Jb := [⟨0, 1, 1⟩]
theorem jl1_none : ∀ i, ¬ IsLate jl1 i := none_of (by decide)
theorem jl2_late : IsLate jl2 1 := ⟨by decide, by decide, by decide⟩
theorem jl3_fit : demB jl3 = true := demB_of (by decide) (by decide)
set_option maxRecDepth 100000 in
set_option maxHeartbeats 1600000 in
theorem v_EdfDemand (E : EdfC) (a0 : Option Addr) (c0 : Nat) (l0 : List Jb) (w : World) (h0 : Jbs w a0 l0) (_k0 : l0.length ≤ c0) :
    Calls Try.prog 5 #[.slice a0 l0.length c0] w fun e w' => e = .returned (.bool true) ∧ Below w.heap.size w w' := by
  have hb : Below w.heap.size w w := Below.refl _ _
  go_enter Try.func5, Try.ntmps5
  go_wp2_with fail
  refine (late_none E _ jl1 _ _ _ (by exact Jbs.lit _ jl1 _ _ rfl (by decide)) (by decide) jl1_none rfl).mono ?_
  rintro e w1 ⟨rfl, b1⟩
  replace b1 := below_of1 b1
  replace h0 := h0.below b1
  replace hb := below_trans hb b1
  clear b1
  go_wp2_with fail
  refine (late_at E _ jl2 _ _ 1 _ (by exact Jbs.lit _ jl2 _ _ rfl (by decide)) (by decide) jl2_late rfl).mono ?_
  rintro e w2 ⟨rfl, b1⟩
  replace b1 := below_of1 b1
  replace h0 := h0.below b1
  replace hb := below_trans hb b1
  clear b1
  go_wp2_with fail
  refine (fits_at E _ jl3 true _ _ _ (by exact Jbs.lit _ jl3 _ _ rfl (by decide)) (by decide) (Lib.hid jl3_fit) rfl).mono ?_
  rintro e w3 ⟨rfl, b1⟩
  replace b1 := below_of1 b1
  replace h0 := h0.below b1
  replace hb := below_trans hb b1
  clear b1
  by_cases hE : jbsE l0 = 0
  · have j := jbs_iff.1 hE
    by_cases hd : Dem l0
    · have hfit := E.fits a0 l0 c0 w3 h0 hE
      rw [demB_true hd] at hfit
      go_wp2_with fail
      refine hfit.mono ?_
      rintro e w4 ⟨rfl, b4⟩
      replace h0 := h0.below b4
      replace hb := below_trans hb b4
      go_wp2_with fail
      refine (late_none E a0 l0 _ c0 _ h0 hE ((none_late j.toJobs).mpr hd) rfl).mono ?_
      rintro e w5 ⟨rfl, b5⟩
      replace h0 := h0.below b5
      replace hb := below_trans hb b5
      go_wp2
      go_ret
      exact ⟨rfl, hb⟩
    · have hfit := E.fits a0 l0 c0 w3 h0 hE
      rw [demB_false hd] at hfit
      go_wp2_with fail
      refine hfit.mono ?_
      rintro e w4 ⟨rfl, b4⟩
      replace h0 := h0.below b4
      replace hb := below_trans hb b4
      obtain ⟨i, hi⟩ : ∃ i, IsLate l0 i := Classical.byContradiction (fun c => hd ((none_late j.toJobs).mp (fun i hi => c ⟨i, hi⟩)))
      go_wp2_with fail
      refine (late_at E a0 l0 _ c0 i _ h0 hE hi rfl).mono ?_
      rintro e w5 ⟨rfl, b5⟩
      replace h0 := h0.below b5
      replace hb := below_trans hb b5
      go_wp2
      go_ret
      exact ⟨rfl, hb⟩
  · have e1 : (jbsE l0 != 0) = true := by simp [hE]
    go_wp2_with fail
    refine (E.fits_no a0 l0 c0 _ h0 hE).mono ?_
    rintro e w4 ⟨rfl, b4⟩
    replace h0 := h0.below b4
    replace hb := below_trans hb b4
    go_wp2_with fail
    refine (E.late_no a0 l0 c0 _ h0 hE).mono ?_
    rintro e w5 ⟨rfl, b5⟩
    replace h0 := h0.below b5
    replace hb := below_trans hb b5
    go_wp2
    go_ret
    exact ⟨rfl, hb⟩

end Go.Proofs.Ytoapgdandpcboaa
