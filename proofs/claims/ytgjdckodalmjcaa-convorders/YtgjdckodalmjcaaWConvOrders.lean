
/-
  The walk of the law ConvOrders.
-/
import Derived.Test.YtgjdckodalmjcaaConvK
namespace Go.Proofs.Ytgjdckodalmjcaa
set_option linter.all false
open Go.RowKit Go.Shelf


theorem conv_lit1 : Convs [0, 1, 5] [0, 2, 3] [0, 1, 3] := ⟨cv_of (by decide), cv_of (by decide), rfl, by decide⟩

set_option maxHeartbeats 3200000 in
theorem walk_ConvOrders (a0 : Option Addr) (c0 : Nat) (l0 : List Int) (a1 : Option Addr) (c1 : Nat) (l1 : List Int) (a2 : Option Addr) (c2 : Nat) (l2 : List Int) (w : World)
    (h0 : Ints w a0 l0) (k0 : l0.length ≤ c0) (h1 : Ints w a1 l1) (k1 : l1.length ≤ c1) (h2 : Ints w a2 l2) (k2 : l2.length ≤ c2) :
    Calls Try.prog 5 #[.slice a0 l0.length c0, .slice a1 l1.length c1, .slice a2 l2.length c2] w fun e w' => e = .returned (.bool true) ∧ Below w.heap.size w w' := by
  have hb : Below w.heap.size w w := Below.refl _ _
  cases t1 : okB l0 l1
  · have T1 := Lib.hid t1
    clear t1
    go_enter Try.func5, Try.ntmps5
    go_wp2_with fail
    refine (conv_yes _ _ [0, 1, 5] [0, 2, 3] [0, 1, 3] _ _ _ _ _ conv_lit1 (by decide) (by exact Ints.litA _ _ _ _ _ rfl (by decide)) (by exact Ints.litB _ _ _ _ _ rfl (by decide)) rfl rfl).mono ?_
    rintro e w1 ⟨Ax, cx, rfl, ox, bw1⟩
    replace bw1 := below_of2 bw1
    replace h0 := h0.below bw1
    replace h1 := h1.below bw1
    replace h2 := h2.below bw1
    replace hb := below_trans hb bw1
    have hx := Ints.of_own ox
    clear bw1 ox
    go_wp2_with fail
    refine (equal_at Ax _ [0, 1, 3] [0, 1, 3] _ _ _ _ _ (by exact Ints.alloc hx _) (by exact Ints.lit _ _ _ _ rfl (by decide)) rfl rfl).mono ?_
    rintro e w2 ⟨rfl, nw2, hww2⟩
    have bw2 := below_of_drewN hww2
    clear hww2
    replace bw2 := below_of1 bw2
    replace h0 := h0.below bw2
    replace h1 := h1.below bw2
    replace h2 := h2.below bw2
    replace hb := below_trans hb bw2
    clear bw2
    rw [eqB_true rfl]
    clear hx
    go_wp2_with fail
    refine (three_any a0 a1 a2 l0 l1 l2 c0 c1 c2 _ h0 h1 h2).mono ?_
    rintro e w' ⟨rfl, rfl⟩
    rw [T1.out]
    go_wp2
    go_ret
    exact ⟨rfl, hb⟩
  cases t2 : okB l1 l2
  · have T1 := Lib.hid t1
    have T2 := Lib.hid t2
    clear t1 t2
    go_enter Try.func5, Try.ntmps5
    go_wp2_with fail
    refine (conv_yes _ _ [0, 1, 5] [0, 2, 3] [0, 1, 3] _ _ _ _ _ conv_lit1 (by decide) (by exact Ints.litA _ _ _ _ _ rfl (by decide)) (by exact Ints.litB _ _ _ _ _ rfl (by decide)) rfl rfl).mono ?_
    rintro e w1 ⟨Ax, cx, rfl, ox, bw1⟩
    replace bw1 := below_of2 bw1
    replace h0 := h0.below bw1
    replace h1 := h1.below bw1
    replace h2 := h2.below bw1
    replace hb := below_trans hb bw1
    have hx := Ints.of_own ox
    clear bw1 ox
    go_wp2_with fail
    refine (equal_at Ax _ [0, 1, 3] [0, 1, 3] _ _ _ _ _ (by exact Ints.alloc hx _) (by exact Ints.lit _ _ _ _ rfl (by decide)) rfl rfl).mono ?_
    rintro e w2 ⟨rfl, nw2, hww2⟩
    have bw2 := below_of_drewN hww2
    clear hww2
    replace bw2 := below_of1 bw2
    replace h0 := h0.below bw2
    replace h1 := h1.below bw2
    replace h2 := h2.below bw2
    replace hb := below_trans hb bw2
    clear bw2
    rw [eqB_true rfl]
    clear hx
    go_wp2_with fail
    refine (three_any a0 a1 a2 l0 l1 l2 c0 c1 c2 _ h0 h1 h2).mono ?_
    rintro e w' ⟨rfl, rfl⟩
    rw [T1.out, T2.out]
    go_wp2
    go_ret
    exact ⟨rfl, hb⟩
  obtain ⟨v0, v1, e01⟩ := chk2_iff.1 (chk2_of_okB t1)
  obtain ⟨_, v2, e12⟩ := chk2_iff.1 (chk2_of_okB t2)
  have T1 := Lib.hid t1
  have T2 := Lib.hid t2
  clear t1 t2
  obtain ⟨a, za⟩ := ex_conv v0 v1 e01
  obtain ⟨c, zc⟩ := ex_conv v1 v2 e12
  have za' := za.symm
  have ea := za.rlen
  cases ba : bigB a
  · have va := za.curve ba
    have Ba := Lib.hid ba
    clear ba
    cases bc : bigB c
    · have vc := zc.curve bc
      have Bc := Lib.hid bc
      clear bc
      obtain ⟨x, zx⟩ := ex_conv va v2 (by omega)
      have zy : Convs l0 c x := conv_assoc za zc vc zx
      clear e01 e12 ea
      cases bx : bigB x
      · have Bx := Lib.hid bx
        clear bx
        go_enter Try.func5, Try.ntmps5
        go_wp2_with fail
        refine (conv_yes _ _ [0, 1, 5] [0, 2, 3] [0, 1, 3] _ _ _ _ _ conv_lit1 (by decide) (by exact Ints.litA _ _ _ _ _ rfl (by decide)) (by exact Ints.litB _ _ _ _ _ rfl (by decide)) rfl rfl).mono ?_
        rintro e w1 ⟨Ax, cx, rfl, ox, bw1⟩
        replace bw1 := below_of2 bw1
        replace h0 := h0.below bw1
        replace h1 := h1.below bw1
        replace h2 := h2.below bw1
        replace hb := below_trans hb bw1
        have hx := Ints.of_own ox
        clear bw1 ox
        go_wp2_with fail
        refine (equal_at Ax _ [0, 1, 3] [0, 1, 3] _ _ _ _ _ (by exact Ints.alloc hx _) (by exact Ints.lit _ _ _ _ rfl (by decide)) rfl rfl).mono ?_
        rintro e w2 ⟨rfl, nw2, hww2⟩
        have bw2 := below_of_drewN hww2
        clear hww2
        replace bw2 := below_of1 bw2
        replace h0 := h0.below bw2
        replace h1 := h1.below bw2
        replace h2 := h2.below bw2
        replace hb := below_trans hb bw2
        clear bw2
        rw [eqB_true rfl]
        clear hx
        go_wp2_with fail
        refine (three_any a0 a1 a2 l0 l1 l2 c0 c1 c2 _ h0 h1 h2).mono ?_
        rintro e w' ⟨rfl, rfl⟩
        rw [T1.out, T2.out]
        go_wp2_with fail
        refine (conv_yes a0 a1 l0 l1 a _ _ c0 c1 _ za Ba.out h0 h1 rfl rfl).mono ?_
        rintro e w3 ⟨Aa, ca, rfl, oa, bw3⟩
        replace h0 := h0.below bw3
        replace h1 := h1.below bw3
        replace h2 := h2.below bw3
        replace hb := below_trans hb bw3
        have ha := Ints.of_own oa
        clear bw3 oa
        go_wp2_with fail
        refine (conv_yes a1 a0 l1 l0 a _ _ c1 c0 _ za' Ba.out h1 h0 rfl rfl).mono ?_
        rintro e w4 ⟨Ab, cb, rfl, ob, bw4⟩
        replace h0 := h0.below bw4
        replace h1 := h1.below bw4
        replace h2 := h2.below bw4
        replace ha := ha.below bw4
        replace hb := below_trans hb bw4
        have hb' := Ints.of_own ob
        clear bw4 ob
        go_wp2_with fail
        refine (same_ok Aa Ab a a _ _ _ _ _ _ _ ha hb' rfl rfl (.inr (.inr ⟨rfl, rfl, rfl⟩))).mono ?_
        rintro e w5 ⟨rfl, nw5, hww5⟩
        have bw5 := below_of_drewN hww5
        clear hww5
        replace h0 := h0.below bw5
        replace h1 := h1.below bw5
        replace h2 := h2.below bw5
        replace ha := ha.below bw5
        replace hb := below_trans hb bw5
        clear bw5
        go_wp2_with fail
        refine (conv_yes a1 a2 l1 l2 c _ _ c1 c2 _ zc Bc.out h1 h2 rfl rfl).mono ?_
        rintro e w6 ⟨Ac, cc, rfl, oc, bw6⟩
        replace h0 := h0.below bw6
        replace h1 := h1.below bw6
        replace h2 := h2.below bw6
        replace ha := ha.below bw6
        replace hb := below_trans hb bw6
        have hc := Ints.of_own oc
        clear bw6 oc
        go_wp2_with fail
        refine (conv_yes Aa a2 a l2 x _ _ ca c2 _ zx Bx.out ha h2 rfl rfl).mono ?_
        rintro e w7 ⟨Ax, cx, rfl, ox, bw7⟩
        replace h0 := h0.below bw7
        replace hc := hc.below bw7
        replace hb := below_trans hb bw7
        have hx := Ints.of_own ox
        clear bw7 ox
        go_wp2_with fail
        refine (conv_yes a0 Ac l0 c x _ _ c0 cc _ zy Bx.out h0 hc rfl rfl).mono ?_
        rintro e w8 ⟨Ay, cy, rfl, oy, bw8⟩
        replace hx := hx.below bw8
        replace hb := below_trans hb bw8
        have hy := Ints.of_own oy
        clear bw8 oy
        go_wp2_with fail
        refine (same_ok Ax Ay x x _ _ _ _ _ _ _ hx hy rfl rfl (.inr (.inr ⟨rfl, rfl, rfl⟩))).mono ?_
        rintro e w9 ⟨rfl, nw9, hww9⟩
        have bw9 := below_of_drewN hww9
        clear hww9
        replace hb := below_trans hb bw9
        clear bw9
        go_wp2
        go_ret
        exact ⟨rfl, hb⟩
      · have Bx := Lib.hid bx
        clear bx
        go_enter Try.func5, Try.ntmps5
        go_wp2_with fail
        refine (conv_yes _ _ [0, 1, 5] [0, 2, 3] [0, 1, 3] _ _ _ _ _ conv_lit1 (by decide) (by exact Ints.litA _ _ _ _ _ rfl (by decide)) (by exact Ints.litB _ _ _ _ _ rfl (by decide)) rfl rfl).mono ?_
        rintro e w1 ⟨Ax, cx, rfl, ox, bw1⟩
        replace bw1 := below_of2 bw1
        replace h0 := h0.below bw1
        replace h1 := h1.below bw1
        replace h2 := h2.below bw1
        replace hb := below_trans hb bw1
        have hx := Ints.of_own ox
        clear bw1 ox
        go_wp2_with fail
        refine (equal_at Ax _ [0, 1, 3] [0, 1, 3] _ _ _ _ _ (by exact Ints.alloc hx _) (by exact Ints.lit _ _ _ _ rfl (by decide)) rfl rfl).mono ?_
        rintro e w2 ⟨rfl, nw2, hww2⟩
        have bw2 := below_of_drewN hww2
        clear hww2
        replace bw2 := below_of1 bw2
        replace h0 := h0.below bw2
        replace h1 := h1.below bw2
        replace h2 := h2.below bw2
        replace hb := below_trans hb bw2
        clear bw2
        rw [eqB_true rfl]
        clear hx
        go_wp2_with fail
        refine (three_any a0 a1 a2 l0 l1 l2 c0 c1 c2 _ h0 h1 h2).mono ?_
        rintro e w' ⟨rfl, rfl⟩
        rw [T1.out, T2.out]
        go_wp2_with fail
        refine (conv_yes a0 a1 l0 l1 a _ _ c0 c1 _ za Ba.out h0 h1 rfl rfl).mono ?_
        rintro e w3 ⟨Aa, ca, rfl, oa, bw3⟩
        replace h0 := h0.below bw3
        replace h1 := h1.below bw3
        replace h2 := h2.below bw3
        replace hb := below_trans hb bw3
        have ha := Ints.of_own oa
        clear bw3 oa
        go_wp2_with fail
        refine (conv_yes a1 a0 l1 l0 a _ _ c1 c0 _ za' Ba.out h1 h0 rfl rfl).mono ?_
        rintro e w4 ⟨Ab, cb, rfl, ob, bw4⟩
        replace h0 := h0.below bw4
        replace h1 := h1.below bw4
        replace h2 := h2.below bw4
        replace ha := ha.below bw4
        replace hb := below_trans hb bw4
        have hb' := Ints.of_own ob
        clear bw4 ob
        go_wp2_with fail
        refine (same_ok Aa Ab a a _ _ _ _ _ _ _ ha hb' rfl rfl (.inr (.inr ⟨rfl, rfl, rfl⟩))).mono ?_
        rintro e w5 ⟨rfl, nw5, hww5⟩
        have bw5 := below_of_drewN hww5
        clear hww5
        replace h0 := h0.below bw5
        replace h1 := h1.below bw5
        replace h2 := h2.below bw5
        replace ha := ha.below bw5
        replace hb := below_trans hb bw5
        clear bw5
        go_wp2_with fail
        refine (conv_yes a1 a2 l1 l2 c _ _ c1 c2 _ zc Bc.out h1 h2 rfl rfl).mono ?_
        rintro e w6 ⟨Ac, cc, rfl, oc, bw6⟩
        replace h0 := h0.below bw6
        replace h1 := h1.below bw6
        replace h2 := h2.below bw6
        replace ha := ha.below bw6
        replace hb := below_trans hb bw6
        have hc := Ints.of_own oc
        clear bw6 oc
        go_wp2_with fail
        refine (conv_no Aa a2 a l2 x _ _ ca c2 _ zx Bx.out ha h2 rfl rfl).mono ?_
        rintro e w7 ⟨Ax, cx, rfl, ox, bw7⟩
        replace h0 := h0.below bw7
        replace hc := hc.below bw7
        replace hb := below_trans hb bw7
        have hx := Ints.of_own ox
        clear bw7 ox
        go_wp2_with fail
        refine (conv_no a0 Ac l0 c x _ _ c0 cc _ zy Bx.out h0 hc rfl rfl).mono ?_
        rintro e w8 ⟨Ay, cy, rfl, oy, bw8⟩
        replace hx := hx.below bw8
        replace hb := below_trans hb bw8
        have hy := Ints.of_own oy
        clear bw8 oy
        go_wp2_with fail
        refine (same_ok Ax Ay [] [] _ _ _ _ _ _ _ hx hy rfl rfl (.inl rfl)).mono ?_
        rintro e w9 ⟨rfl, nw9, hww9⟩
        have bw9 := below_of_drewN hww9
        clear hww9
        replace hb := below_trans hb bw9
        clear bw9
        go_wp2
        go_ret
        exact ⟨rfl, hb⟩
    · have Bc := Lib.hid bc
      clear bc
      clear e01 e12 ea
      go_enter Try.func5, Try.ntmps5
      go_wp2_with fail
      refine (conv_yes _ _ [0, 1, 5] [0, 2, 3] [0, 1, 3] _ _ _ _ _ conv_lit1 (by decide) (by exact Ints.litA _ _ _ _ _ rfl (by decide)) (by exact Ints.litB _ _ _ _ _ rfl (by decide)) rfl rfl).mono ?_
      rintro e w1 ⟨Ax, cx, rfl, ox, bw1⟩
      replace bw1 := below_of2 bw1
      replace h0 := h0.below bw1
      replace h1 := h1.below bw1
      replace h2 := h2.below bw1
      replace hb := below_trans hb bw1
      have hx := Ints.of_own ox
      clear bw1 ox
      go_wp2_with fail
      refine (equal_at Ax _ [0, 1, 3] [0, 1, 3] _ _ _ _ _ (by exact Ints.alloc hx _) (by exact Ints.lit _ _ _ _ rfl (by decide)) rfl rfl).mono ?_
      rintro e w2 ⟨rfl, nw2, hww2⟩
      have bw2 := below_of_drewN hww2
      clear hww2
      replace bw2 := below_of1 bw2
      replace h0 := h0.below bw2
      replace h1 := h1.below bw2
      replace h2 := h2.below bw2
      replace hb := below_trans hb bw2
      clear bw2
      rw [eqB_true rfl]
      clear hx
      go_wp2_with fail
      refine (three_any a0 a1 a2 l0 l1 l2 c0 c1 c2 _ h0 h1 h2).mono ?_
      rintro e w' ⟨rfl, rfl⟩
      rw [T1.out, T2.out]
      go_wp2_with fail
      refine (conv_yes a0 a1 l0 l1 a _ _ c0 c1 _ za Ba.out h0 h1 rfl rfl).mono ?_
      rintro e w3 ⟨Aa, ca, rfl, oa, bw3⟩
      replace h0 := h0.below bw3
      replace h1 := h1.below bw3
      replace h2 := h2.below bw3
      replace hb := below_trans hb bw3
      have ha := Ints.of_own oa
      clear bw3 oa
      go_wp2_with fail
      refine (conv_yes a1 a0 l1 l0 a _ _ c1 c0 _ za' Ba.out h1 h0 rfl rfl).mono ?_
      rintro e w4 ⟨Ab, cb, rfl, ob, bw4⟩
      replace h0 := h0.below bw4
      replace h1 := h1.below bw4
      replace h2 := h2.below bw4
      replace ha := ha.below bw4
      replace hb := below_trans hb bw4
      have hb' := Ints.of_own ob
      clear bw4 ob
      go_wp2_with fail
      refine (same_ok Aa Ab a a _ _ _ _ _ _ _ ha hb' rfl rfl (.inr (.inr ⟨rfl, rfl, rfl⟩))).mono ?_
      rintro e w5 ⟨rfl, nw5, hww5⟩
      have bw5 := below_of_drewN hww5
      clear hww5
      replace h0 := h0.below bw5
      replace h1 := h1.below bw5
      replace h2 := h2.below bw5
      replace ha := ha.below bw5
      replace hb := below_trans hb bw5
      clear bw5
      go_wp2_with fail
      refine (conv_no a1 a2 l1 l2 c _ _ c1 c2 _ zc Bc.out h1 h2 rfl rfl).mono ?_
      rintro e w6 ⟨Ac, cc, rfl, oc, bw6⟩
      replace h0 := h0.below bw6
      replace h1 := h1.below bw6
      replace h2 := h2.below bw6
      replace ha := ha.below bw6
      replace hb := below_trans hb bw6
      have hc := Ints.of_own oc
      clear bw6 oc
      go_wp2
      go_ret
      exact ⟨rfl, hb⟩
  · have Ba := Lib.hid ba
    clear ba
    clear e01 e12 ea
    go_enter Try.func5, Try.ntmps5
    go_wp2_with fail
    refine (conv_yes _ _ [0, 1, 5] [0, 2, 3] [0, 1, 3] _ _ _ _ _ conv_lit1 (by decide) (by exact Ints.litA _ _ _ _ _ rfl (by decide)) (by exact Ints.litB _ _ _ _ _ rfl (by decide)) rfl rfl).mono ?_
    rintro e w1 ⟨Ax, cx, rfl, ox, bw1⟩
    replace bw1 := below_of2 bw1
    replace h0 := h0.below bw1
    replace h1 := h1.below bw1
    replace h2 := h2.below bw1
    replace hb := below_trans hb bw1
    have hx := Ints.of_own ox
    clear bw1 ox
    go_wp2_with fail
    refine (equal_at Ax _ [0, 1, 3] [0, 1, 3] _ _ _ _ _ (by exact Ints.alloc hx _) (by exact Ints.lit _ _ _ _ rfl (by decide)) rfl rfl).mono ?_
    rintro e w2 ⟨rfl, nw2, hww2⟩
    have bw2 := below_of_drewN hww2
    clear hww2
    replace bw2 := below_of1 bw2
    replace h0 := h0.below bw2
    replace h1 := h1.below bw2
    replace h2 := h2.below bw2
    replace hb := below_trans hb bw2
    clear bw2
    rw [eqB_true rfl]
    clear hx
    go_wp2_with fail
    refine (three_any a0 a1 a2 l0 l1 l2 c0 c1 c2 _ h0 h1 h2).mono ?_
    rintro e w' ⟨rfl, rfl⟩
    rw [T1.out, T2.out]
    go_wp2_with fail
    refine (conv_no a0 a1 l0 l1 a _ _ c0 c1 _ za Ba.out h0 h1 rfl rfl).mono ?_
    rintro e w3 ⟨Aa, ca, rfl, oa, bw3⟩
    replace h0 := h0.below bw3
    replace h1 := h1.below bw3
    replace h2 := h2.below bw3
    replace hb := below_trans hb bw3
    have ha := Ints.of_own oa
    clear bw3 oa
    go_wp2_with fail
    refine (conv_no a1 a0 l1 l0 a _ _ c1 c0 _ za' Ba.out h1 h0 rfl rfl).mono ?_
    rintro e w4 ⟨Ab, cb, rfl, ob, bw4⟩
    replace h0 := h0.below bw4
    replace h1 := h1.below bw4
    replace h2 := h2.below bw4
    replace ha := ha.below bw4
    replace hb := below_trans hb bw4
    have hb' := Ints.of_own ob
    clear bw4 ob
    go_wp2_with fail
    refine (same_ok Aa Ab [] [] _ _ _ _ _ _ _ ha hb' rfl rfl (.inl rfl)).mono ?_
    rintro e w5 ⟨rfl, nw5, hww5⟩
    have bw5 := below_of_drewN hww5
    clear hww5
    replace h0 := h0.below bw5
    replace h1 := h1.below bw5
    replace h2 := h2.below bw5
    replace ha := ha.below bw5
    replace hb := below_trans hb bw5
    clear bw5
    go_wp2_with fail
    refine (conv_ok a1 a2 l1 l2 c _ _ c1 c2 _ zc h1 h2 rfl rfl).mono ?_
    rintro e w6 ⟨Ac, cc, rfl, oc, bw6⟩
    replace h0 := h0.below bw6
    replace h1 := h1.below bw6
    replace h2 := h2.below bw6
    replace ha := ha.below bw6
    replace hb := below_trans hb bw6
    have hc := Ints.of_own oc
    clear bw6 oc
    go_wp2
    go_ret
    exact ⟨rfl, hb⟩

end Go.Proofs.Ytgjdckodalmjcaa
