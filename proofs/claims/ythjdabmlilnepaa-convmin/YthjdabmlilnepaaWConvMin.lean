
/-
  The walk of the law ConvMin.
-/
import Derived.Test.YthjdabmlilnepaaConvK
namespace Go.Proofs.Ythjdabmlilnepaa
set_option linter.all false
open Go.RowKit Go.Shelf


theorem conv_lit3 : Convs [0, 7] [0, 4] [0, 4] := ⟨cv_of (by decide), cv_of (by decide), rfl, by decide⟩

/-- It goes over Min. -/
theorem conv_min {f g h m x p q : List Int} (zm : Zips min f g m) (zx : Convs m h x) (zp : Convs f h p) (zq : Convs g h q) (bx : bigB x = false) (bp : bigB p = false) (bq : bigB q = false) : Zips min p q x := by
  have e1 := zm.len; have e2 := zm.rlen; have e3 := zx.rlen; have e4 := zp.rlen; have e5 := zq.rlen
  refine ⟨zp.curve bp, zq.curve bq, by omega, by omega, zx.curve bx, fun t ht => ?_⟩
  obtain ⟨i, j, ij, ex⟩ := zx.at_ (t := t) (by omega)
  obtain ⟨i1, j1, ij1, ep⟩ := zp.at_ (t := t) (by omega)
  obtain ⟨i2, j2, ij2, eq⟩ := zq.at_ (t := t) (by omega)
  have a1 := zx.le i1 j1 (by omega); have a2 := zx.le i2 j2 (by omega)
  have a3 := zp.le i j (by omega); have a4 := zq.le i j (by omega)
  have m0 := zm.val i (by omega); have m1 := zm.val i1 (by omega); have m2 := zm.val i2 (by omega)
  rw [ij1] at a1; rw [ij2] at a2; rw [ij] at a3 a4
  omega

set_option maxHeartbeats 3200000 in
theorem walk_ConvMin (a0 : Option Addr) (c0 : Nat) (l0 : List Int) (a1 : Option Addr) (c1 : Nat) (l1 : List Int) (a2 : Option Addr) (c2 : Nat) (l2 : List Int) (w : World)
    (h0 : Ints w a0 l0) (k0 : l0.length ≤ c0) (h1 : Ints w a1 l1) (k1 : l1.length ≤ c1) (h2 : Ints w a2 l2) (k2 : l2.length ≤ c2) :
    Calls Try.prog 11 #[.slice a0 l0.length c0, .slice a1 l1.length c1, .slice a2 l2.length c2] w fun e w' => e = .returned (.bool true) ∧ Below w.heap.size w w' := by
  have hb : Below w.heap.size w w := Below.refl _ _
  cases t1 : okB l0 l1
  · have T1 := Lib.hid t1
    clear t1
    go_enter Try.func11, Try.ntmps11
    go_wp2_with fail
    refine (conv_yes _ _ [0, 7] [0, 4] [0, 4] _ _ _ _ _ conv_lit3 (by decide) (by exact Ints.litA _ _ _ _ _ rfl (by decide)) (by exact Ints.litB _ _ _ _ _ rfl (by decide)) rfl rfl).mono ?_
    rintro e w1 ⟨Ax, cx, rfl, ox, bw1⟩
    replace bw1 := below_of2 bw1
    replace h0 := h0.below bw1
    replace h1 := h1.below bw1
    replace h2 := h2.below bw1
    replace hb := below_trans hb bw1
    have hx := Ints.of_own ox
    clear bw1 ox
    go_wp2_with fail
    refine (equal_at Ax _ [0, 4] [0, 4] _ _ _ _ _ (by exact Ints.alloc hx _) (by exact Ints.lit _ _ _ _ rfl (by decide)) rfl rfl).mono ?_
    rintro e w2 ⟨rfl, nw2, hww2⟩
    have bw2 := below_of_drewN hww2
    clear hww2
    replace bw2 := below_of1 bw2
    replace h0 := h0.below bw2
    replace h1 := h1.below bw2
    replace h2 := h2.below bw2
    replace hb := below_trans hb bw2
    clear bw2
    rw [eqB_true rfl]
    clear hx
    go_wp2_with fail
    refine (three_any a0 a1 a2 l0 l1 l2 c0 c1 c2 _ h0 h1 h2).mono ?_
    rintro e w' ⟨rfl, rfl⟩
    rw [T1.out]
    go_wp2
    go_ret
    exact ⟨rfl, hb⟩
  cases t2 : okB l1 l2
  · have T1 := Lib.hid t1
    have T2 := Lib.hid t2
    clear t1 t2
    go_enter Try.func11, Try.ntmps11
    go_wp2_with fail
    refine (conv_yes _ _ [0, 7] [0, 4] [0, 4] _ _ _ _ _ conv_lit3 (by decide) (by exact Ints.litA _ _ _ _ _ rfl (by decide)) (by exact Ints.litB _ _ _ _ _ rfl (by decide)) rfl rfl).mono ?_
    rintro e w1 ⟨Ax, cx, rfl, ox, bw1⟩
    replace bw1 := below_of2 bw1
    replace h0 := h0.below bw1
    replace h1 := h1.below bw1
    replace h2 := h2.below bw1
    replace hb := below_trans hb bw1
    have hx := Ints.of_own ox
    clear bw1 ox
    go_wp2_with fail
    refine (equal_at Ax _ [0, 4] [0, 4] _ _ _ _ _ (by exact Ints.alloc hx _) (by exact Ints.lit _ _ _ _ rfl (by decide)) rfl rfl).mono ?_
    rintro e w2 ⟨rfl, nw2, hww2⟩
    have bw2 := below_of_drewN hww2
    clear hww2
    replace bw2 := below_of1 bw2
    replace h0 := h0.below bw2
    replace h1 := h1.below bw2
    replace h2 := h2.below bw2
    replace hb := below_trans hb bw2
    clear bw2
    rw [eqB_true rfl]
    clear hx
    go_wp2_with fail
    refine (three_any a0 a1 a2 l0 l1 l2 c0 c1 c2 _ h0 h1 h2).mono ?_
    rintro e w' ⟨rfl, rfl⟩
    rw [T1.out, T2.out]
    go_wp2
    go_ret
    exact ⟨rfl, hb⟩
  obtain ⟨v0, v1, e01⟩ := chk2_iff.1 (chk2_of_okB t1)
  obtain ⟨_, v2, e12⟩ := chk2_iff.1 (chk2_of_okB t2)
  have T1 := Lib.hid t1
  have T2 := Lib.hid t2
  clear t1 t2
  obtain ⟨m, zm⟩ := ex_min v0 v1 e01
  have em := zm.rlen
  obtain ⟨x, zx⟩ := ex_conv zm.r v2 (by omega)
  obtain ⟨p, zp⟩ := ex_conv v0 v2 (by omega)
  obtain ⟨q, zq⟩ := ex_conv v1 v2 e12
  clear e01 e12 em
  cases bx : bigB x
  · cases bp : bigB p
    · cases bq : bigB q
      · have zy := conv_min zm zx zp zq bx bp bq
        have Bx := Lib.hid bx
        clear bx
        have Bp := Lib.hid bp
        clear bp
        have Bq := Lib.hid bq
        clear bq
        go_enter Try.func11, Try.ntmps11
        go_wp2_with fail
        refine (conv_yes _ _ [0, 7] [0, 4] [0, 4] _ _ _ _ _ conv_lit3 (by decide) (by exact Ints.litA _ _ _ _ _ rfl (by decide)) (by exact Ints.litB _ _ _ _ _ rfl (by decide)) rfl rfl).mono ?_
        rintro e w1 ⟨Ax, cx, rfl, ox, bw1⟩
        replace bw1 := below_of2 bw1
        replace h0 := h0.below bw1
        replace h1 := h1.below bw1
        replace h2 := h2.below bw1
        replace hb := below_trans hb bw1
        have hx := Ints.of_own ox
        clear bw1 ox
        go_wp2_with fail
        refine (equal_at Ax _ [0, 4] [0, 4] _ _ _ _ _ (by exact Ints.alloc hx _) (by exact Ints.lit _ _ _ _ rfl (by decide)) rfl rfl).mono ?_
        rintro e w2 ⟨rfl, nw2, hww2⟩
        have bw2 := below_of_drewN hww2
        clear hww2
        replace bw2 := below_of1 bw2
        replace h0 := h0.below bw2
        replace h1 := h1.below bw2
        replace h2 := h2.below bw2
        replace hb := below_trans hb bw2
        clear bw2
        rw [eqB_true rfl]
        clear hx
        go_wp2_with fail
        refine (three_any a0 a1 a2 l0 l1 l2 c0 c1 c2 _ h0 h1 h2).mono ?_
        rintro e w' ⟨rfl, rfl⟩
        rw [T1.out, T2.out]
        go_wp2_with fail
        refine (min_ok a0 a1 l0 l1 m c0 c1 _ zm h0 h1).mono ?_
        rintro e w3 ⟨Am, cm, rfl, om, bw3⟩
        replace h0 := h0.below bw3
        replace h1 := h1.below bw3
        replace h2 := h2.below bw3
        replace hb := below_trans hb bw3
        have hm := Ints.of_own om
        clear bw3 om
        go_wp2_with fail
        refine (conv_yes Am a2 m l2 x _ _ cm c2 _ zx Bx.out hm h2 rfl rfl).mono ?_
        rintro e w4 ⟨Ax, cx, rfl, ox, bw4⟩
        replace h0 := h0.below bw4
        replace h1 := h1.below bw4
        replace h2 := h2.below bw4
        replace hb := below_trans hb bw4
        have hx := Ints.of_own ox
        clear bw4 ox
        go_wp2_with fail
        refine (conv_yes a0 a2 l0 l2 p _ _ c0 c2 _ zp Bp.out h0 h2 rfl rfl).mono ?_
        rintro e w5 ⟨Ap, cp, rfl, op, bw5⟩
        replace h0 := h0.below bw5
        replace h1 := h1.below bw5
        replace h2 := h2.below bw5
        replace hx := hx.below bw5
        replace hb := below_trans hb bw5
        have hp := Ints.of_own op
        clear bw5 op
        go_wp2_with fail
        refine (conv_yes a1 a2 l1 l2 q _ _ c1 c2 _ zq Bq.out h1 h2 rfl rfl).mono ?_
        rintro e w6 ⟨Aq, cq, rfl, oq, bw6⟩
        replace hx := hx.below bw6
        replace hp := hp.below bw6
        replace hb := below_trans hb bw6
        have hq := Ints.of_own oq
        clear bw6 oq
        go_wp2_with fail
        refine (min_ok Ap Aq p q x cp cq _ zy hp hq).mono ?_
        rintro e w7 ⟨Ay, cy, rfl, oy, bw7⟩
        replace hx := hx.below bw7
        replace hb := below_trans hb bw7
        have hy := Ints.of_own oy
        clear bw7 oy
        go_wp2_with fail
        refine (same_ok Ax Ay x x _ _ _ _ _ _ _ hx hy rfl rfl (.inr (.inr ⟨rfl, rfl, rfl⟩))).mono ?_
        rintro e w8 ⟨rfl, nw8, hww8⟩
        have bw8 := below_of_drewN hww8
        clear hww8
        replace hb := below_trans hb bw8
        clear bw8
        go_wp2
        go_ret
        exact ⟨rfl, hb⟩
      · have Bx := Lib.hid bx
        clear bx
        have Bp := Lib.hid bp
        clear bp
        have Bq := Lib.hid bq
        clear bq
        go_enter Try.func11, Try.ntmps11
        go_wp2_with fail
        refine (conv_yes _ _ [0, 7] [0, 4] [0, 4] _ _ _ _ _ conv_lit3 (by decide) (by exact Ints.litA _ _ _ _ _ rfl (by decide)) (by exact Ints.litB _ _ _ _ _ rfl (by decide)) rfl rfl).mono ?_
        rintro e w1 ⟨Ax, cx, rfl, ox, bw1⟩
        replace bw1 := below_of2 bw1
        replace h0 := h0.below bw1
        replace h1 := h1.below bw1
        replace h2 := h2.below bw1
        replace hb := below_trans hb bw1
        have hx := Ints.of_own ox
        clear bw1 ox
        go_wp2_with fail
        refine (equal_at Ax _ [0, 4] [0, 4] _ _ _ _ _ (by exact Ints.alloc hx _) (by exact Ints.lit _ _ _ _ rfl (by decide)) rfl rfl).mono ?_
        rintro e w2 ⟨rfl, nw2, hww2⟩
        have bw2 := below_of_drewN hww2
        clear hww2
        replace bw2 := below_of1 bw2
        replace h0 := h0.below bw2
        replace h1 := h1.below bw2
        replace h2 := h2.below bw2
        replace hb := below_trans hb bw2
        clear bw2
        rw [eqB_true rfl]
        clear hx
        go_wp2_with fail
        refine (three_any a0 a1 a2 l0 l1 l2 c0 c1 c2 _ h0 h1 h2).mono ?_
        rintro e w' ⟨rfl, rfl⟩
        rw [T1.out, T2.out]
        go_wp2_with fail
        refine (min_ok a0 a1 l0 l1 m c0 c1 _ zm h0 h1).mono ?_
        rintro e w3 ⟨Am, cm, rfl, om, bw3⟩
        replace h0 := h0.below bw3
        replace h1 := h1.below bw3
        replace h2 := h2.below bw3
        replace hb := below_trans hb bw3
        have hm := Ints.of_own om
        clear bw3 om
        go_wp2_with fail
        refine (conv_yes Am a2 m l2 x _ _ cm c2 _ zx Bx.out hm h2 rfl rfl).mono ?_
        rintro e w4 ⟨Ax, cx, rfl, ox, bw4⟩
        replace h0 := h0.below bw4
        replace h1 := h1.below bw4
        replace h2 := h2.below bw4
        replace hb := below_trans hb bw4
        have hx := Ints.of_own ox
        clear bw4 ox
        go_wp2_with fail
        refine (conv_yes a0 a2 l0 l2 p _ _ c0 c2 _ zp Bp.out h0 h2 rfl rfl).mono ?_
        rintro e w5 ⟨Ap, cp, rfl, op, bw5⟩
        replace h0 := h0.below bw5
        replace h1 := h1.below bw5
        replace h2 := h2.below bw5
        replace hx := hx.below bw5
        replace hb := below_trans hb bw5
        have hp := Ints.of_own op
        clear bw5 op
        go_wp2_with fail
        refine (conv_no a1 a2 l1 l2 q _ _ c1 c2 _ zq Bq.out h1 h2 rfl rfl).mono ?_
        rintro e w6 ⟨Aq, cq, rfl, oq, bw6⟩
        replace hx := hx.below bw6
        replace hp := hp.below bw6
        replace hb := below_trans hb bw6
        have hq := Ints.of_own oq
        clear bw6 oq
        go_wp2
        go_ret
        exact ⟨rfl, hb⟩
    · have Bx := Lib.hid bx
      clear bx
      have Bp := Lib.hid bp
      clear bp
      go_enter Try.func11, Try.ntmps11
      go_wp2_with fail
      refine (conv_yes _ _ [0, 7] [0, 4] [0, 4] _ _ _ _ _ conv_lit3 (by decide) (by exact Ints.litA _ _ _ _ _ rfl (by decide)) (by exact Ints.litB _ _ _ _ _ rfl (by decide)) rfl rfl).mono ?_
      rintro e w1 ⟨Ax, cx, rfl, ox, bw1⟩
      replace bw1 := below_of2 bw1
      replace h0 := h0.below bw1
      replace h1 := h1.below bw1
      replace h2 := h2.below bw1
      replace hb := below_trans hb bw1
      have hx := Ints.of_own ox
      clear bw1 ox
      go_wp2_with fail
      refine (equal_at Ax _ [0, 4] [0, 4] _ _ _ _ _ (by exact Ints.alloc hx _) (by exact Ints.lit _ _ _ _ rfl (by decide)) rfl rfl).mono ?_
      rintro e w2 ⟨rfl, nw2, hww2⟩
      have bw2 := below_of_drewN hww2
      clear hww2
      replace bw2 := below_of1 bw2
      replace h0 := h0.below bw2
      replace h1 := h1.below bw2
      replace h2 := h2.below bw2
      replace hb := below_trans hb bw2
      clear bw2
      rw [eqB_true rfl]
      clear hx
      go_wp2_with fail
      refine (three_any a0 a1 a2 l0 l1 l2 c0 c1 c2 _ h0 h1 h2).mono ?_
      rintro e w' ⟨rfl, rfl⟩
      rw [T1.out, T2.out]
      go_wp2_with fail
      refine (min_ok a0 a1 l0 l1 m c0 c1 _ zm h0 h1).mono ?_
      rintro e w3 ⟨Am, cm, rfl, om, bw3⟩
      replace h0 := h0.below bw3
      replace h1 := h1.below bw3
      replace h2 := h2.below bw3
      replace hb := below_trans hb bw3
      have hm := Ints.of_own om
      clear bw3 om
      go_wp2_with fail
      refine (conv_yes Am a2 m l2 x _ _ cm c2 _ zx Bx.out hm h2 rfl rfl).mono ?_
      rintro e w4 ⟨Ax, cx, rfl, ox, bw4⟩
      replace h0 := h0.below bw4
      replace h1 := h1.below bw4
      replace h2 := h2.below bw4
      replace hb := below_trans hb bw4
      have hx := Ints.of_own ox
      clear bw4 ox
      go_wp2_with fail
      refine (conv_no a0 a2 l0 l2 p _ _ c0 c2 _ zp Bp.out h0 h2 rfl rfl).mono ?_
      rintro e w5 ⟨Ap, cp, rfl, op, bw5⟩
      replace h0 := h0.below bw5
      replace h1 := h1.below bw5
      replace h2 := h2.below bw5
      replace hx := hx.below bw5
      replace hb := below_trans hb bw5
      have hp := Ints.of_own op
      clear bw5 op
      go_wp2_with fail
      refine (conv_ok a1 a2 l1 l2 q _ _ c1 c2 _ zq h1 h2 rfl rfl).mono ?_
      rintro e w6 ⟨Aq, cq, rfl, oq, bw6⟩
      replace hx := hx.below bw6
      replace hp := hp.below bw6
      replace hb := below_trans hb bw6
      have hq := Ints.of_own oq
      clear bw6 oq
      go_wp2
      go_ret
      exact ⟨rfl, hb⟩
  · have Bx := Lib.hid bx
    clear bx
    go_enter Try.func11, Try.ntmps11
    go_wp2_with fail
    refine (conv_yes _ _ [0, 7] [0, 4] [0, 4] _ _ _ _ _ conv_lit3 (by decide) (by exact Ints.litA _ _ _ _ _ rfl (by decide)) (by exact Ints.litB _ _ _ _ _ rfl (by decide)) rfl rfl).mono ?_
    rintro e w1 ⟨Ax, cx, rfl, ox, bw1⟩
    replace bw1 := below_of2 bw1
    replace h0 := h0.below bw1
    replace h1 := h1.below bw1
    replace h2 := h2.below bw1
    replace hb := below_trans hb bw1
    have hx := Ints.of_own ox
    clear bw1 ox
    go_wp2_with fail
    refine (equal_at Ax _ [0, 4] [0, 4] _ _ _ _ _ (by exact Ints.alloc hx _) (by exact Ints.lit _ _ _ _ rfl (by decide)) rfl rfl).mono ?_
    rintro e w2 ⟨rfl, nw2, hww2⟩
    have bw2 := below_of_drewN hww2
    clear hww2
    replace bw2 := below_of1 bw2
    replace h0 := h0.below bw2
    replace h1 := h1.below bw2
    replace h2 := h2.below bw2
    replace hb := below_trans hb bw2
    clear bw2
    rw [eqB_true rfl]
    clear hx
    go_wp2_with fail
    refine (three_any a0 a1 a2 l0 l1 l2 c0 c1 c2 _ h0 h1 h2).mono ?_
    rintro e w' ⟨rfl, rfl⟩
    rw [T1.out, T2.out]
    go_wp2_with fail
    refine (min_ok a0 a1 l0 l1 m c0 c1 _ zm h0 h1).mono ?_
    rintro e w3 ⟨Am, cm, rfl, om, bw3⟩
    replace h0 := h0.below bw3
    replace h1 := h1.below bw3
    replace h2 := h2.below bw3
    replace hb := below_trans hb bw3
    have hm := Ints.of_own om
    clear bw3 om
    go_wp2_with fail
    refine (conv_no Am a2 m l2 x _ _ cm c2 _ zx Bx.out hm h2 rfl rfl).mono ?_
    rintro e w4 ⟨Ax, cx, rfl, ox, bw4⟩
    replace h0 := h0.below bw4
    replace h1 := h1.below bw4
    replace h2 := h2.below bw4
    replace hb := below_trans hb bw4
    have hx := Ints.of_own ox
    clear bw4 ox
    go_wp2_with fail
    refine (conv_ok a0 a2 l0 l2 p _ _ c0 c2 _ zp h0 h2 rfl rfl).mono ?_
    rintro e w5 ⟨Ap, cp, rfl, op, bw5⟩
    replace h0 := h0.below bw5
    replace h1 := h1.below bw5
    replace h2 := h2.below bw5
    replace hx := hx.below bw5
    replace hb := below_trans hb bw5
    have hp := Ints.of_own op
    clear bw5 op
    go_wp2_with fail
    refine (conv_ok a1 a2 l1 l2 q _ _ c1 c2 _ zq h1 h2 rfl rfl).mono ?_
    rintro e w6 ⟨Aq, cq, rfl, oq, bw6⟩
    replace hx := hx.below bw6
    replace hp := hp.below bw6
    replace hb := below_trans hb bw6
    have hq := Ints.of_own oq
    clear bw6 oq
    go_wp2
    go_ret
    exact ⟨rfl, hb⟩

end Go.Proofs.Ythjdabmlilnepaa
