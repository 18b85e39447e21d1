
/-
  The walk of the law TraceLeast.
-/
import Derived.Test.YtaopeofcmnckfaaBoundA
namespace Go.Proofs.Ytaopeofcmnckfaa
set_option linter.all false
open Go.RowKit Go.Shelf


theorem env_lit : Decs [0, 5, 6] [0, 5, 6] [0, 5, 6] := ⟨cv_of (by decide), cv_of (by decide), rfl, by decide⟩
theorem fit_leK {f g x : List Int} (vf : Cv f) (vg : Cv g) (e : f.length = g.length) (z : Decs f f x) : fitB f g = leK x g := by
  apply bool_eq
  rw [fitB_iff vf vg e, fit_env vg e z, leK_iff z.r vg (by rw [z.rlen, e]), z.rlen]

set_option maxHeartbeats 3200000 in
theorem walk_TraceLeast (a0 : Option Addr) (c0 : Nat) (l0 : List Int) (a1 : Option Addr) (c1 : Nat) (l1 : List Int) (w : World)
    (h0 : Ints w a0 l0) (k0 : l0.length ≤ c0) (h1 : Ints w a1 l1) (k1 : l1.length ≤ c1) :
    Calls Try.prog 7 #[.slice a0 l0.length c0, .slice a1 l1.length c1] w fun e w' => e = .returned (.bool true) ∧ Below w.heap.size w w' := by
  have hb : Below w.heap.size w w := Below.refl _ _
  cases t1 : okB l0 l1
  · have T1 := Lib.hid t1
    clear t1
    go_enter Try.func7, Try.ntmps7
    go_wp2_with fail
    refine (env_ok _ [0, 5, 6] [0, 5, 6] _ _ _ env_lit (by exact Ints.lit _ _ _ _ rfl (by decide)) (by decide) rfl).mono ?_
    rintro e w1 ⟨Ax, cx, rfl, ox, bw1⟩
    replace bw1 := below_of1 bw1
    replace h0 := h0.below bw1
    replace h1 := h1.below bw1
    replace hb := below_trans hb bw1
    have hx := Ints.of_own ox
    clear bw1 ox
    go_wp2_with fail
    refine (equal_at Ax _ [0, 5, 6] [0, 5, 6] _ _ _ _ _ (by exact Ints.alloc hx _) (by exact Ints.lit _ _ _ _ rfl (by decide)) rfl rfl).mono ?_
    rintro e w2 ⟨rfl, nw2, hww2⟩
    have bw2 := below_of_drewN hww2
    clear hww2
    replace bw2 := below_of1 bw2
    replace h0 := h0.below bw2
    replace h1 := h1.below bw2
    replace hb := below_trans hb bw2
    clear bw2
    rw [eqB_true rfl]
    clear hx
    go_wp2_with fail
    refine (both_any a0 a1 l0 l1 c0 c1 _ h0 h1).mono ?_
    rintro e w' ⟨rfl, rfl⟩
    rw [T1.out]
    go_wp2
    go_ret
    exact ⟨rfl, hb⟩
  obtain ⟨v0, v1, e01⟩ := chk2_iff.1 (chk2_of_okB t1)
  have T1 := Lib.hid t1
  clear t1
  obtain ⟨x, zx⟩ := ex_dec v0 v0 rfl
  have vx := zx.r
  have ex := zx.rlen
  obtain ⟨s, hs⟩ : ∃ s, s = leK x l1 := ⟨_, rfl⟩
  have S1 : Hid (Hid (fitB l0 l1 = s)) := Lib.hid (Lib.hid (by rw [hs]; exact fit_leK v0 v1 e01 zx))
  have S2 : Hid (Hid (subB x = true)) := Lib.hid (Lib.hid ((subB_iff vx).2 (env_sb zx)))
  have S3 : Hid (Hid (fitB l0 x = true)) := Lib.hid (Lib.hid ((fitB_iff v0 vx ex.symm).2 (env_fit zx)))
  have S4 := Lib.hid hs
  have E01 := Lib.hid e01
  have EX := Lib.hid ex
  have t1 : (s == s) = true := by simp
  clear hs e01 ex
  go_enter Try.func7, Try.ntmps7
  go_wp2_with fail
  refine (env_ok _ [0, 5, 6] [0, 5, 6] _ _ _ env_lit (by exact Ints.lit _ _ _ _ rfl (by decide)) (by decide) rfl).mono ?_
  rintro e w1 ⟨Ax, cx, rfl, ox, bw1⟩
  replace bw1 := below_of1 bw1
  replace h0 := h0.below bw1
  replace h1 := h1.below bw1
  replace hb := below_trans hb bw1
  have hx := Ints.of_own ox
  clear bw1 ox
  go_wp2_with fail
  refine (equal_at Ax _ [0, 5, 6] [0, 5, 6] _ _ _ _ _ (by exact Ints.alloc hx _) (by exact Ints.lit _ _ _ _ rfl (by decide)) rfl rfl).mono ?_
  rintro e w2 ⟨rfl, nw2, hww2⟩
  have bw2 := below_of_drewN hww2
  clear hww2
  replace bw2 := below_of1 bw2
  replace h0 := h0.below bw2
  replace h1 := h1.below bw2
  replace hb := below_trans hb bw2
  clear bw2
  rw [eqB_true rfl]
  clear hx
  go_wp2_with fail
  refine (both_any a0 a1 l0 l1 c0 c1 _ h0 h1).mono ?_
  rintro e w' ⟨rfl, rfl⟩
  rw [T1.out]
  go_wp2_with fail
  refine (env_ok a0 l0 x _ c0 _ zx h0 k0 rfl).mono ?_
  rintro e w3 ⟨Ax, cx, rfl, ox, bw3⟩
  replace h0 := h0.below bw3
  replace h1 := h1.below bw3
  replace hb := below_trans hb bw3
  have hx := Ints.of_own ox
  have kx := own_cap ox
  clear bw3 ox
  go_wp2_with fail
  refine (fits_yes a0 a1 l0 l1 _ _ c0 c1 s _ v0 v1 E01.out S1.out h0 h1 k0 rfl rfl).mono ?_
  rintro e w4 ⟨rfl, bw4⟩
  replace h0 := h0.below bw4
  replace h1 := h1.below bw4
  replace hx := hx.below bw4
  replace hb := below_trans hb bw4
  clear bw4
  go_wp2_with fail
  refine (is_ok Ax x _ cx true _ vx S2.out hx kx rfl).mono ?_
  rintro e w5 ⟨rfl, bw5⟩
  replace h0 := h0.below bw5
  replace h1 := h1.below bw5
  replace hx := hx.below bw5
  replace hb := below_trans hb bw5
  clear bw5
  go_wp2_with fail
  refine (fits_yes a0 Ax l0 x _ _ c0 cx true _ v0 vx EX.out.symm S3.out h0 hx k0 rfl rfl).mono ?_
  rintro e w6 ⟨rfl, bw6⟩
  replace h0 := h0.below bw6
  replace h1 := h1.below bw6
  replace hx := hx.below bw6
  replace hb := below_trans hb bw6
  clear bw6
  go_wp2_with fail
  refine (kle_at Ax a1 x l1 _ _ _ _ _ hx h1 rfl rfl).mono ?_
  rintro e w7 ⟨rfl, nw7, hww7⟩
  have bw7 := below_of_drewN hww7
  clear hww7
  replace hb := below_trans hb bw7
  clear bw7
  rw [← S4.out]
  go_wp2
  go_ret
  exact ⟨rfl, hb⟩

end Go.Proofs.Ytaopeofcmnckfaa
