
/-
  The walk of the law ConvCuts.
-/
import Derived.Test.YtgjdckodalmjcaaConvK
namespace Go.Proofs.Ytgjdckodalmjcaa
set_option linter.all false
open Go.RowKit Go.Shelf


theorem conv_lit4 : Convs [0] [5] [5] := ⟨cv_of (by decide), cv_of (by decide), rfl, by decide⟩

/-- What comes later makes no difference. -/
theorem conv_cut {f g x : List Int} (z : Convs f g x) {n : Nat} (hn : 0 < n) : Convs (f.take n) (g.take n) (x.take n) := by
  have e1 := z.len; have e2 := z.rlen
  refine ⟨z.one.take hn, z.two.take hn, by simp [e1], ?_⟩
  refine list_ext (by simp [length_cvL, e2]) (fun t ht => ?_)
  simp at ht
  rw [gt_take (by omega), z.val (by omega), gt_cvL (by simp; omega)]
  exact cv_congr (fun i hi => (gt_take (by omega)).symm) (fun i hi => (gt_take (by omega)).symm)

set_option maxHeartbeats 3200000 in
theorem walk_ConvCuts (a0 : Option Addr) (c0 : Nat) (l0 : List Int) (a1 : Option Addr) (c1 : Nat) (l1 : List Int) (n : Int) (w : World)
    (h0 : Ints w a0 l0) (k0 : l0.length ≤ c0) (h1 : Ints w a1 l1) (k1 : l1.length ≤ c1) (_hn : (Lit.int .i64 n).wf = true) :
    Calls Try.prog 9 #[.slice a0 l0.length c0, .slice a1 l1.length c1, .int .i64 n] w fun e w' => e = .returned (.bool true) ∧ Below w.heap.size w w' := by
  have hb : Below w.heap.size w w := Below.refl _ _
  cases t1 : okB l0 l1
  · have T1 := Lib.hid t1
    clear t1
    go_enter Try.func9, Try.ntmps9
    go_wp2_with fail
    refine (conv_yes _ _ [0] [5] [5] _ _ _ _ _ conv_lit4 (by decide) (by exact Ints.litA _ _ _ _ _ rfl (by decide)) (by exact Ints.litB _ _ _ _ _ rfl (by decide)) rfl rfl).mono ?_
    rintro e w1 ⟨Ax, cx, rfl, ox, bw1⟩
    replace bw1 := below_of2 bw1
    replace h0 := h0.below bw1
    replace h1 := h1.below bw1
    replace hb := below_trans hb bw1
    have hx := Ints.of_own ox
    clear bw1 ox
    go_wp2_with fail
    refine (equal_at Ax _ [5] [5] _ _ _ _ _ (by exact Ints.alloc hx _) (by exact Ints.lit _ _ _ _ rfl (by decide)) rfl rfl).mono ?_
    rintro e w2 ⟨rfl, nw2, hww2⟩
    have bw2 := below_of_drewN hww2
    clear hww2
    replace bw2 := below_of1 bw2
    replace h0 := h0.below bw2
    replace h1 := h1.below bw2
    replace hb := below_trans hb bw2
    clear bw2
    rw [eqB_true rfl]
    clear hx
    go_wp2_with fail
    refine (both_any a0 a1 l0 l1 c0 c1 _ h0 h1).mono ?_
    rintro e w' ⟨rfl, rfl⟩
    rw [T1.out]
    go_wp2
    go_ret
    exact ⟨rfl, hb⟩
  obtain ⟨v0, v1, e01⟩ := chk2_iff.1 (chk2_of_okB t1)
  have T1 := Lib.hid t1
  clear t1
  obtain ⟨x, zx⟩ := ex_conv v0 v1 e01
  have hp := v0.pos
  have h61 := v0.le
  obtain ⟨q, hq⟩ := Int.eq_ofNat_of_zero_le (wi_nonneg n l0.length (by omega))
  have hq' : q < l0.length := by have := wi_lt n l0.length (by omega); omega
  have hq1 : q < l1.length := by omega
  have hqx : q < x.length := by rw [zx.rlen]; exact hq'
  have HQ := Lib.hid hq
  clear hq
  clear e01
  cases bx : bigB x
  · have vx := zx.curve bx
    have zy := conv_cut zx (n := q + 1) (by omega)
    have by_ : bigB (x.take (q + 1)) = false := bigB_no.2 (vx.take (by omega)).hi
    have B := Lib.hid by_
    clear by_
    have Bx := Lib.hid bx
    clear bx
    go_enter Try.func9, Try.ntmps9
    go_wp2_with fail
    refine (conv_yes _ _ [0] [5] [5] _ _ _ _ _ conv_lit4 (by decide) (by exact Ints.litA _ _ _ _ _ rfl (by decide)) (by exact Ints.litB _ _ _ _ _ rfl (by decide)) rfl rfl).mono ?_
    rintro e w1 ⟨Ax, cx, rfl, ox, bw1⟩
    replace bw1 := below_of2 bw1
    replace h0 := h0.below bw1
    replace h1 := h1.below bw1
    replace hb := below_trans hb bw1
    have hx := Ints.of_own ox
    clear bw1 ox
    go_wp2_with fail
    refine (equal_at Ax _ [5] [5] _ _ _ _ _ (by exact Ints.alloc hx _) (by exact Ints.lit _ _ _ _ rfl (by decide)) rfl rfl).mono ?_
    rintro e w2 ⟨rfl, nw2, hww2⟩
    have bw2 := below_of_drewN hww2
    clear hww2
    replace bw2 := below_of1 bw2
    replace h0 := h0.below bw2
    replace h1 := h1.below bw2
    replace hb := below_trans hb bw2
    clear bw2
    rw [eqB_true rfl]
    clear hx
    go_wp2_with fail
    refine (both_any a0 a1 l0 l1 c0 c1 _ h0 h1).mono ?_
    rintro e w' ⟨rfl, rfl⟩
    rw [T1.out]
    go_wp2_with fail
    refine (within_any n l0.length _ (by omega) (by omega)).mono ?_
    rintro e w' ⟨rfl, rfl⟩
    rw [HQ.out]
    go_wp2_with fail
    refine (conv_yes a0 a1 l0 l1 x _ _ c0 c1 _ zx Bx.out h0 h1 rfl rfl).mono ?_
    rintro e w3 ⟨Ax, cx, rfl, ox, bw3⟩
    replace h0 := h0.below bw3
    replace h1 := h1.below bw3
    replace hb := below_trans hb bw3
    have hx := Ints.of_own ox
    clear bw3 ox
    go_wp2_with fail
    refine (cut_yes a0 l0 _ c0 q _ v0 hq' h0 rfl).mono ?_
    rintro e w4 ⟨Au, cu, rfl, ou, bw4⟩
    replace h1 := h1.below bw4
    replace hx := hx.below bw4
    replace hb := below_trans hb bw4
    have hu := Ints.of_own ou
    clear bw4 ou
    go_wp2_with fail
    refine (cut_yes a1 l1 _ c1 q _ v1 hq1 h1 rfl).mono ?_
    rintro e w5 ⟨Av, cv, rfl, ov, bw5⟩
    replace hx := hx.below bw5
    replace hu := hu.below bw5
    replace hb := below_trans hb bw5
    have hv := Ints.of_own ov
    clear bw5 ov
    go_wp2_with fail
    refine (conv_yes Au Av (l0.take (q + 1)) (l1.take (q + 1)) (x.take (q + 1)) _ _ cu cv _ zy B.out hu hv (by simp) (by simp)).mono ?_
    rintro e w6 ⟨Ay, cy, rfl, oy, bw6⟩
    replace hx := hx.below bw6
    replace hb := below_trans hb bw6
    have hy := Ints.of_own oy
    clear bw6 oy
    go_wp2_with fail
    refine (cut_yes Ax x _ cx q _ vx hqx hx rfl).mono ?_
    rintro e w7 ⟨Az, cz, rfl, oz, bw7⟩
    replace hy := hy.below bw7
    replace hb := below_trans hb bw7
    have hz := Ints.of_own oz
    clear bw7 oz
    go_wp2_with fail
    refine (equal_at Ay Az (x.take (q + 1)) (x.take (q + 1)) _ _ cy cz _ hy hz (by simp) (by simp)).mono ?_
    rintro e w8 ⟨rfl, nw8, hww8⟩
    have bw8 := below_of_drewN hww8
    clear hww8
    replace hb := below_trans hb bw8
    clear bw8
    rw [eqB_true rfl]
    go_wp2
    go_ret
    exact ⟨rfl, hb⟩
  · have Bx := Lib.hid bx
    clear bx
    go_enter Try.func9, Try.ntmps9
    go_wp2_with fail
    refine (conv_yes _ _ [0] [5] [5] _ _ _ _ _ conv_lit4 (by decide) (by exact Ints.litA _ _ _ _ _ rfl (by decide)) (by exact Ints.litB _ _ _ _ _ rfl (by decide)) rfl rfl).mono ?_
    rintro e w1 ⟨Ax, cx, rfl, ox, bw1⟩
    replace bw1 := below_of2 bw1
    replace h0 := h0.below bw1
    replace h1 := h1.below bw1
    replace hb := below_trans hb bw1
    have hx := Ints.of_own ox
    clear bw1 ox
    go_wp2_with fail
    refine (equal_at Ax _ [5] [5] _ _ _ _ _ (by exact Ints.alloc hx _) (by exact Ints.lit _ _ _ _ rfl (by decide)) rfl rfl).mono ?_
    rintro e w2 ⟨rfl, nw2, hww2⟩
    have bw2 := below_of_drewN hww2
    clear hww2
    replace bw2 := below_of1 bw2
    replace h0 := h0.below bw2
    replace h1 := h1.below bw2
    replace hb := below_trans hb bw2
    clear bw2
    rw [eqB_true rfl]
    clear hx
    go_wp2_with fail
    refine (both_any a0 a1 l0 l1 c0 c1 _ h0 h1).mono ?_
    rintro e w' ⟨rfl, rfl⟩
    rw [T1.out]
    go_wp2_with fail
    refine (within_any n l0.length _ (by omega) (by omega)).mono ?_
    rintro e w' ⟨rfl, rfl⟩
    rw [HQ.out]
    go_wp2_with fail
    refine (conv_no a0 a1 l0 l1 x _ _ c0 c1 _ zx Bx.out h0 h1 rfl rfl).mono ?_
    rintro e w3 ⟨Ax, cx, rfl, ox, bw3⟩
    replace h0 := h0.below bw3
    replace h1 := h1.below bw3
    replace hb := below_trans hb bw3
    have hx := Ints.of_own ox
    clear bw3 ox
    go_wp2
    go_ret
    exact ⟨rfl, hb⟩

end Go.Proofs.Ytgjdckodalmjcaa
