
/-
  The walk of the law ConvUp.
-/
import Derived.Test.YthjdabmlilnepaaConvK
namespace Go.Proofs.Ythjdabmlilnepaa
set_option linter.all false
open Go.RowKit Go.Shelf


theorem conv_lit6 : Convs [2, 3] [0, 0] [2, 2] := ⟨cv_of (by decide), cv_of (by decide), rfl, by decide⟩

/-- What goes up by a number goes up by it behind, too. -/
theorem conv_up {f g u x y : List Int} {n : Int} (zu : Ups f n u) (zx : Convs u g x) (zy : Convs f g y) (by_ : bigB y = false) : Ups y n x := by
  have e1 := zu.rlen; have e2 := zx.rlen; have e3 := zy.rlen
  refine ⟨zy.curve by_, zu.n0, zu.n1, by omega, fun t ht => ?_⟩
  obtain ⟨i, j, ij, ex⟩ := zx.at_ (t := t) (by omega)
  obtain ⟨i1, j1, ij1, ey⟩ := zy.at_ (t := t) (by omega)
  have a1 := zx.le i1 j1 (by omega); have a2 := zy.le i j (by omega)
  have m0 := zu.val i (by omega); have m1 := zu.val i1 (by omega)
  rw [ij1] at a1; rw [ij] at a2
  omega
/-- With nothing it is its first value. -/
theorem cv_zero {n : Nat} (h0 : 0 < n) (h1 : n ≤ 61) : Cv (List.replicate n 0) := by
  refine ⟨by simpa using h0, by simpa using h1, fun i hi => ?_, fun i hi => ?_, fun i hi => ?_⟩ <;> simp at hi
  · rw [gt_replicate hi]; decide
  · rw [gt_replicate hi]; decide
  · rw [gt_replicate hi, gt_replicate (by omega)]; decide
theorem conv_zero {f R : List Int} (z : Convs f (List.replicate f.length 0) R) {t : Nat} (ht : t < f.length) : gt R t = gt f 0 := by
  obtain ⟨i, j, ij, e⟩ := z.at_ ht
  have a := z.le 0 t (by omega)
  rw [Nat.zero_add] at a
  rw [gt_replicate ht] at a
  rw [gt_replicate (by omega)] at e
  have := z.one.mono (i := 0) (j := i) (by omega) (by omega)
  omega

set_option maxHeartbeats 3200000 in
theorem walk_ConvUp (a0 : Option Addr) (c0 : Nat) (l0 : List Int) (a1 : Option Addr) (c1 : Nat) (l1 : List Int) (n : Int) (w : World)
    (h0 : Ints w a0 l0) (k0 : l0.length ≤ c0) (h1 : Ints w a1 l1) (k1 : l1.length ≤ c1) (_hn : (Lit.int .i64 n).wf = true) :
    Calls Try.prog 12 #[.slice a0 l0.length c0, .slice a1 l1.length c1, .int .i64 n] w fun e w' => e = .returned (.bool true) ∧ Below w.heap.size w w' := by
  have hb : Below w.heap.size w w := Below.refl _ _
  cases t1 : okB l0 l1
  · have T1 := Lib.hid t1
    clear t1
    go_enter Try.func12, Try.ntmps12
    go_wp2_with fail
    refine (conv_yes _ _ [2, 3] [0, 0] [2, 2] _ _ _ _ _ conv_lit6 (by decide) (by exact Ints.litA _ _ _ _ _ rfl (by decide)) (by exact Ints.litB _ _ _ _ _ rfl (by decide)) rfl rfl).mono ?_
    rintro e w1 ⟨Ax, cx, rfl, ox, bw1⟩
    replace bw1 := below_of2 bw1
    replace h0 := h0.below bw1
    replace h1 := h1.below bw1
    replace hb := below_trans hb bw1
    have hx := Ints.of_own ox
    clear bw1 ox
    go_wp2_with fail
    refine (equal_at Ax _ [2, 2] [2, 2] _ _ _ _ _ (by exact Ints.alloc hx _) (by exact Ints.lit _ _ _ _ rfl (by decide)) rfl rfl).mono ?_
    rintro e w2 ⟨rfl, nw2, hww2⟩
    have bw2 := below_of_drewN hww2
    clear hww2
    replace bw2 := below_of1 bw2
    replace h0 := h0.below bw2
    replace h1 := h1.below bw2
    replace hb := below_trans hb bw2
    clear bw2
    rw [eqB_true rfl]
    clear hx
    go_wp2_with fail
    refine (both_any a0 a1 l0 l1 c0 c1 _ h0 h1).mono ?_
    rintro e w' ⟨rfl, rfl⟩
    rw [T1.out]
    go_wp2
    go_ret
    exact ⟨rfl, hb⟩
  obtain ⟨v0, v1, e01⟩ := chk2_iff.1 (chk2_of_okB t1)
  have T1 := Lib.hid t1
  clear t1
  obtain ⟨N, hN⟩ : ∃ N, N = wi n 1000 := ⟨_, rfl⟩
  have n0 : 0 ≤ N := by rw [hN]; exact wi_nonneg _ _ (by decide)
  have n1 : N < 1000 := by rw [hN]; exact wi_lt _ _ (by decide)
  have HN := Lib.hid hN
  clear hN
  have hp := v0.pos
  have h61 := v0.le
  obtain ⟨u, zu⟩ := ex_up v0 n0 (by omega)
  have eu := zu.rlen
  obtain ⟨y, zy⟩ := ex_conv v0 v1 e01
  cases bu : bigB u
  · have vu := zu.curve bu
    have Bu := Lib.hid bu
    clear bu
    obtain ⟨x, zx⟩ := ex_conv vu v1 (by omega)
    cases bY : bigB y
    · have zz := conv_up zu zx zy bY
      obtain ⟨R, zR⟩ := ex_conv v0 (cv_zero hp h61) (by simp)
      have rlen := zR.rlen
      have RV : Hid (∀ t, t < l0.length → gt R t = gt l0 0) := Lib.hid (fun t ht => conv_zero zR ht)
      have bR : bigB R = false := bigB_no.2 (fun t ht => by rw [RV.out t (by omega)]; exact v0.hi 0 hp)
      obtain ⟨f0, hf0⟩ : ∃ f0, f0 = gt l0 0 := ⟨_, rfl⟩
      obtain ⟨k, hk⟩ : ∃ k, k = R.length - 1 := ⟨_, rfl⟩
      have k1 : k < R.length := by omega
      have k2 : k < l0.length := by omega
      have i1 : (k : Int) < (R.length : Int) := by omega
      have i2 : (0 : Int) ≤ (k : Int) := by omega
      have i3 : (0 : Int) < (R.length : Int) := by omega
      have i4 : (0 : Int) < (l0.length : Int) := by omega
      have i5 : 0 < R.length := by omega
      have eK : IntKind.i64.wrap ((R.length : Int) - 1) = (k : Int) := by rw [IntWalk.i64_in _ ⟨by omega, by omega⟩]; omega
      have hmk := fun W => run_make_row' (P := Try.prog) 22 3 (.int .i64 0) 8 Try.underlying22 int_info rfl .i64 .i64 l0.length (by omega) (by omega) W
      have HF := Lib.hid hf0
      have BR := Lib.hid bR
      clear bR
      have BY := Lib.hid bY
      clear bY
      clear e01 eu rlen hf0 hk
      cases bx : bigB x
      · have Bx := Lib.hid bx
        clear bx
        go_enter Try.func12, Try.ntmps12
        go_wp2_with fail
        refine (conv_yes _ _ [2, 3] [0, 0] [2, 2] _ _ _ _ _ conv_lit6 (by decide) (by exact Ints.litA _ _ _ _ _ rfl (by decide)) (by exact Ints.litB _ _ _ _ _ rfl (by decide)) rfl rfl).mono ?_
        rintro e w1 ⟨Ax, cx, rfl, ox, bw1⟩
        replace bw1 := below_of2 bw1
        replace h0 := h0.below bw1
        replace h1 := h1.below bw1
        replace hb := below_trans hb bw1
        have hx := Ints.of_own ox
        clear bw1 ox
        go_wp2_with fail
        refine (equal_at Ax _ [2, 2] [2, 2] _ _ _ _ _ (by exact Ints.alloc hx _) (by exact Ints.lit _ _ _ _ rfl (by decide)) rfl rfl).mono ?_
        rintro e w2 ⟨rfl, nw2, hww2⟩
        have bw2 := below_of_drewN hww2
        clear hww2
        replace bw2 := below_of1 bw2
        replace h0 := h0.below bw2
        replace h1 := h1.below bw2
        replace hb := below_trans hb bw2
        clear bw2
        rw [eqB_true rfl]
        clear hx
        go_wp2_with fail
        refine (both_any a0 a1 l0 l1 c0 c1 _ h0 h1).mono ?_
        rintro e w' ⟨rfl, rfl⟩
        rw [T1.out]
        go_wp2_with fail
        refine (within_any n 1000 _ (by decide) (by decide)).mono ?_
        rintro e w' ⟨rfl, rfl⟩
        rw [← HN.out]
        go_wp2_with fail
        refine (up_yes a0 l0 u _ c0 N _ zu Bu.out h0 rfl).mono ?_
        rintro e w3 ⟨Au, cu, rfl, ou, bw3⟩
        replace h0 := h0.below bw3
        replace h1 := h1.below bw3
        replace hb := below_trans hb bw3
        have hu := Ints.of_own ou
        clear bw3 ou
        go_wp2_with fail
        refine (conv_yes Au a1 u l1 x _ _ cu c1 _ zx Bx.out hu h1 rfl rfl).mono ?_
        rintro e w4 ⟨Ax, cx, rfl, ox, bw4⟩
        replace h0 := h0.below bw4
        replace h1 := h1.below bw4
        replace hb := below_trans hb bw4
        have hx := Ints.of_own ox
        clear bw4 ox
        go_wp2_with fail
        refine (conv_yes a0 a1 l0 l1 y _ _ c0 c1 _ zy BY.out h0 h1 rfl rfl).mono ?_
        rintro e w5 ⟨Ay, cy, rfl, oy, bw5⟩
        replace h0 := h0.below bw5
        replace hx := hx.below bw5
        replace hb := below_trans hb bw5
        have hy := Ints.of_own oy
        clear bw5 oy
        go_wp2_with fail
        refine (up_yes Ay y x _ cy N _ zz Bx.out hy rfl).mono ?_
        rintro e w6 ⟨Az, cz, rfl, oz, bw6⟩
        replace h0 := h0.below bw6
        replace hx := hx.below bw6
        replace hb := below_trans hb bw6
        have hz := Ints.of_own oz
        clear bw6 oz
        go_wp2_with fail
        refine (conv_yes a0 _ l0 (List.replicate l0.length 0) R _ _ c0 _ _ zR BR.out (by exact h0.alloc _) (by exact Ints.made _ _ h61) rfl (by simp)).mono ?_
        rintro e w8 ⟨Ar, cr, rfl, or, bw8⟩
        replace bw8 := below_of1 bw8
        replace h0 := h0.below bw8
        replace hx := hx.below bw8
        replace hz := hz.below bw8
        replace hb := below_trans hb bw8
        have hr := Ints.of_own or
        clear bw8 or
        obtain ⟨b1, o1, y1, rfl, hc1, HX1⟩ := hr.at_ (k := 0) (by omega)
        obtain rfl : y1 = f0 := by rw [HF.out, ← gt_of_get HX1.out]; exact RV.out 0 (by omega)
        obtain ⟨b2, o2, y2, eA, hc2, HX2⟩ := hr.at_ (k := k) (by omega)
        obtain rfl : y2 = y1 := by rw [HF.out, ← gt_of_get HX2.out]; exact RV.out k (by omega)
        obtain ⟨rfl, rfl⟩ : b2 = b1 ∧ o2 = o1 := by injection eA with eA; injection eA with e1 e2; exact ⟨e1.symm, e2.symm⟩
        clear eA
        obtain ⟨b3, o3, rfl, hc3⟩ := h0.first hp
        rw [← HF.out] at hc3
        simp only [Nat.add_zero] at hc1
        go_wp2
        go_quiet ((go_at_call 32; exact Calls.quiet_of (same_ok Ax Az x x _ _ _ _ _ _ _ (hx.drewN _) (hz.drewN _) rfl rfl (.inr (.inr ⟨rfl, rfl, rfl⟩)))))
        go_wp2
        go_ret
        exact ⟨rfl, below_trans hb (below_of_drewN rfl)⟩
      · have Bx := Lib.hid bx
        clear bx
        go_enter Try.func12, Try.ntmps12
        go_wp2_with fail
        refine (conv_yes _ _ [2, 3] [0, 0] [2, 2] _ _ _ _ _ conv_lit6 (by decide) (by exact Ints.litA _ _ _ _ _ rfl (by decide)) (by exact Ints.litB _ _ _ _ _ rfl (by decide)) rfl rfl).mono ?_
        rintro e w1 ⟨Ax, cx, rfl, ox, bw1⟩
        replace bw1 := below_of2 bw1
        replace h0 := h0.below bw1
        replace h1 := h1.below bw1
        replace hb := below_trans hb bw1
        have hx := Ints.of_own ox
        clear bw1 ox
        go_wp2_with fail
        refine (equal_at Ax _ [2, 2] [2, 2] _ _ _ _ _ (by exact Ints.alloc hx _) (by exact Ints.lit _ _ _ _ rfl (by decide)) rfl rfl).mono ?_
        rintro e w2 ⟨rfl, nw2, hww2⟩
        have bw2 := below_of_drewN hww2
        clear hww2
        replace bw2 := below_of1 bw2
        replace h0 := h0.below bw2
        replace h1 := h1.below bw2
        replace hb := below_trans hb bw2
        clear bw2
        rw [eqB_true rfl]
        clear hx
        go_wp2_with fail
        refine (both_any a0 a1 l0 l1 c0 c1 _ h0 h1).mono ?_
        rintro e w' ⟨rfl, rfl⟩
        rw [T1.out]
        go_wp2_with fail
        refine (within_any n 1000 _ (by decide) (by decide)).mono ?_
        rintro e w' ⟨rfl, rfl⟩
        rw [← HN.out]
        go_wp2_with fail
        refine (up_yes a0 l0 u _ c0 N _ zu Bu.out h0 rfl).mono ?_
        rintro e w3 ⟨Au, cu, rfl, ou, bw3⟩
        replace h0 := h0.below bw3
        replace h1 := h1.below bw3
        replace hb := below_trans hb bw3
        have hu := Ints.of_own ou
        clear bw3 ou
        go_wp2_with fail
        refine (conv_no Au a1 u l1 x _ _ cu c1 _ zx Bx.out hu h1 rfl rfl).mono ?_
        rintro e w4 ⟨Ax, cx, rfl, ox, bw4⟩
        replace h0 := h0.below bw4
        replace h1 := h1.below bw4
        replace hb := below_trans hb bw4
        have hx := Ints.of_own ox
        clear bw4 ox
        go_wp2_with fail
        refine (conv_yes a0 a1 l0 l1 y _ _ c0 c1 _ zy BY.out h0 h1 rfl rfl).mono ?_
        rintro e w5 ⟨Ay, cy, rfl, oy, bw5⟩
        replace h0 := h0.below bw5
        replace hx := hx.below bw5
        replace hb := below_trans hb bw5
        have hy := Ints.of_own oy
        clear bw5 oy
        go_wp2_with fail
        refine (up_no Ay y x _ cy N _ zz Bx.out hy rfl).mono ?_
        rintro e w6 ⟨Az, cz, rfl, oz, bw6⟩
        replace h0 := h0.below bw6
        replace hx := hx.below bw6
        replace hb := below_trans hb bw6
        have hz := Ints.of_own oz
        clear bw6 oz
        go_wp2_with fail
        refine (conv_yes a0 _ l0 (List.replicate l0.length 0) R _ _ c0 _ _ zR BR.out (by exact h0.alloc _) (by exact Ints.made _ _ h61) rfl (by simp)).mono ?_
        rintro e w8 ⟨Ar, cr, rfl, or, bw8⟩
        replace bw8 := below_of1 bw8
        replace h0 := h0.below bw8
        replace hx := hx.below bw8
        replace hz := hz.below bw8
        replace hb := below_trans hb bw8
        have hr := Ints.of_own or
        clear bw8 or
        obtain ⟨b1, o1, y1, rfl, hc1, HX1⟩ := hr.at_ (k := 0) (by omega)
        obtain rfl : y1 = f0 := by rw [HF.out, ← gt_of_get HX1.out]; exact RV.out 0 (by omega)
        obtain ⟨b2, o2, y2, eA, hc2, HX2⟩ := hr.at_ (k := k) (by omega)
        obtain rfl : y2 = y1 := by rw [HF.out, ← gt_of_get HX2.out]; exact RV.out k (by omega)
        obtain ⟨rfl, rfl⟩ : b2 = b1 ∧ o2 = o1 := by injection eA with eA; injection eA with e1 e2; exact ⟨e1.symm, e2.symm⟩
        clear eA
        obtain ⟨b3, o3, rfl, hc3⟩ := h0.first hp
        rw [← HF.out] at hc3
        simp only [Nat.add_zero] at hc1
        go_wp2
        go_quiet ((go_at_call 32; exact Calls.quiet_of (same_ok Ax Az [] [] _ _ _ _ _ _ _ (hx.drewN _) (hz.drewN _) rfl rfl (.inl rfl))))
        go_wp2
        go_ret
        exact ⟨rfl, below_trans hb (below_of_drewN rfl)⟩
    · have BY := Lib.hid bY
      clear bY
      clear e01 eu
      go_enter Try.func12, Try.ntmps12
      go_wp2_with fail
      refine (conv_yes _ _ [2, 3] [0, 0] [2, 2] _ _ _ _ _ conv_lit6 (by decide) (by exact Ints.litA _ _ _ _ _ rfl (by decide)) (by exact Ints.litB _ _ _ _ _ rfl (by decide)) rfl rfl).mono ?_
      rintro e w1 ⟨Ax, cx, rfl, ox, bw1⟩
      replace bw1 := below_of2 bw1
      replace h0 := h0.below bw1
      replace h1 := h1.below bw1
      replace hb := below_trans hb bw1
      have hx := Ints.of_own ox
      clear bw1 ox
      go_wp2_with fail
      refine (equal_at Ax _ [2, 2] [2, 2] _ _ _ _ _ (by exact Ints.alloc hx _) (by exact Ints.lit _ _ _ _ rfl (by decide)) rfl rfl).mono ?_
      rintro e w2 ⟨rfl, nw2, hww2⟩
      have bw2 := below_of_drewN hww2
      clear hww2
      replace bw2 := below_of1 bw2
      replace h0 := h0.below bw2
      replace h1 := h1.below bw2
      replace hb := below_trans hb bw2
      clear bw2
      rw [eqB_true rfl]
      clear hx
      go_wp2_with fail
      refine (both_any a0 a1 l0 l1 c0 c1 _ h0 h1).mono ?_
      rintro e w' ⟨rfl, rfl⟩
      rw [T1.out]
      go_wp2_with fail
      refine (within_any n 1000 _ (by decide) (by decide)).mono ?_
      rintro e w' ⟨rfl, rfl⟩
      rw [← HN.out]
      go_wp2_with fail
      refine (up_yes a0 l0 u _ c0 N _ zu Bu.out h0 rfl).mono ?_
      rintro e w3 ⟨Au, cu, rfl, ou, bw3⟩
      replace h0 := h0.below bw3
      replace h1 := h1.below bw3
      replace hb := below_trans hb bw3
      have hu := Ints.of_own ou
      clear bw3 ou
      go_wp2_with fail
      refine (conv_ok Au a1 u l1 x _ _ cu c1 _ zx hu h1 rfl rfl).mono ?_
      rintro e w4 ⟨Ax, cx, rfl, ox, bw4⟩
      replace h0 := h0.below bw4
      replace h1 := h1.below bw4
      replace hb := below_trans hb bw4
      have hx := Ints.of_own ox
      clear bw4 ox
      go_wp2_with fail
      refine (conv_no a0 a1 l0 l1 y _ _ c0 c1 _ zy BY.out h0 h1 rfl rfl).mono ?_
      rintro e w5 ⟨Ay, cy, rfl, oy, bw5⟩
      replace h0 := h0.below bw5
      replace hx := hx.below bw5
      replace hb := below_trans hb bw5
      have hy := Ints.of_own oy
      clear bw5 oy
      go_wp2
      go_ret
      exact ⟨rfl, hb⟩
  · have Bu := Lib.hid bu
    clear bu
    clear e01 eu
    go_enter Try.func12, Try.ntmps12
    go_wp2_with fail
    refine (conv_yes _ _ [2, 3] [0, 0] [2, 2] _ _ _ _ _ conv_lit6 (by decide) (by exact Ints.litA _ _ _ _ _ rfl (by decide)) (by exact Ints.litB _ _ _ _ _ rfl (by decide)) rfl rfl).mono ?_
    rintro e w1 ⟨Ax, cx, rfl, ox, bw1⟩
    replace bw1 := below_of2 bw1
    replace h0 := h0.below bw1
    replace h1 := h1.below bw1
    replace hb := below_trans hb bw1
    have hx := Ints.of_own ox
    clear bw1 ox
    go_wp2_with fail
    refine (equal_at Ax _ [2, 2] [2, 2] _ _ _ _ _ (by exact Ints.alloc hx _) (by exact Ints.lit _ _ _ _ rfl (by decide)) rfl rfl).mono ?_
    rintro e w2 ⟨rfl, nw2, hww2⟩
    have bw2 := below_of_drewN hww2
    clear hww2
    replace bw2 := below_of1 bw2
    replace h0 := h0.below bw2
    replace h1 := h1.below bw2
    replace hb := below_trans hb bw2
    clear bw2
    rw [eqB_true rfl]
    clear hx
    go_wp2_with fail
    refine (both_any a0 a1 l0 l1 c0 c1 _ h0 h1).mono ?_
    rintro e w' ⟨rfl, rfl⟩
    rw [T1.out]
    go_wp2_with fail
    refine (within_any n 1000 _ (by decide) (by decide)).mono ?_
    rintro e w' ⟨rfl, rfl⟩
    rw [← HN.out]
    go_wp2_with fail
    refine (up_no a0 l0 u _ c0 N _ zu Bu.out h0 rfl).mono ?_
    rintro e w3 ⟨Au, cu, rfl, ou, bw3⟩
    replace h0 := h0.below bw3
    replace h1 := h1.below bw3
    replace hb := below_trans hb bw3
    have hu := Ints.of_own ou
    clear bw3 ou
    go_wp2
    go_ret
    exact ⟨rfl, hb⟩

end Go.Proofs.Ythjdabmlilnepaa
