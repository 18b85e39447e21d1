
/-
  The walk of the law ConvGrows.
-/
import Derived.Test.YthjdabmlilnepaaConvK
namespace Go.Proofs.Ythjdabmlilnepaa
set_option linter.all false
open Go.RowKit Go.Shelf


theorem conv_lit2 : Convs [1, 2] [3, 9] [4, 5] := ⟨cv_of (by decide), cv_of (by decide), rfl, by decide⟩

/-- It is at most the one with the other's first value. -/
theorem conv_le_up {f h x u : List Int} (zx : Convs f h x) (zu : Ups f (gt h 0) u) (bx : bigB x = false) (bu : bigB u = false) : leK x u = true := by
  have e1 := zx.rlen; have e2 := zu.rlen
  rw [leK_iff (zx.curve bx) (zu.curve bu) (by omega)]
  intro t ht
  rw [zu.val t (by omega)]
  exact zx.le t 0 (by omega)
/-- Of less it is less. -/
theorem conv_mono {f g h x y : List Int} (zx : Convs f h x) (zy : Convs g h y) (bx : bigB x = false) (by_ : bigB y = false) (l : leK f g = true) : leK x y = true := by
  have e1 := zx.rlen; have e2 := zy.rlen; have e3 := zx.len; have e4 := zy.len
  rw [leK_iff zx.one zy.one (by omega)] at l
  rw [leK_iff (zx.curve bx) (zy.curve by_) (by omega)]
  intro t ht
  rw [zx.val (by omega), zy.val (by omega)]
  exact cv_mono (fun i hi => l i (by omega)) (fun _ _ => Int.le_refl _)

set_option maxHeartbeats 3200000 in
theorem walk_ConvGrows (a0 : Option Addr) (c0 : Nat) (l0 : List Int) (a1 : Option Addr) (c1 : Nat) (l1 : List Int) (a2 : Option Addr) (c2 : Nat) (l2 : List Int) (w : World)
    (h0 : Ints w a0 l0) (k0 : l0.length ≤ c0) (h1 : Ints w a1 l1) (k1 : l1.length ≤ c1) (h2 : Ints w a2 l2) (k2 : l2.length ≤ c2) :
    Calls Try.prog 10 #[.slice a0 l0.length c0, .slice a1 l1.length c1, .slice a2 l2.length c2] w fun e w' => e = .returned (.bool true) ∧ Below w.heap.size w w' := by
  have hb : Below w.heap.size w w := Below.refl _ _
  cases t1 : okB l0 l1
  · have T1 := Lib.hid t1
    clear t1
    go_enter Try.func10, Try.ntmps10
    go_wp2_with fail
    refine (conv_yes _ _ [1, 2] [3, 9] [4, 5] _ _ _ _ _ conv_lit2 (by decide) (by exact Ints.litA _ _ _ _ _ rfl (by decide)) (by exact Ints.litB _ _ _ _ _ rfl (by decide)) rfl rfl).mono ?_
    rintro e w1 ⟨Ax, cx, rfl, ox, bw1⟩
    replace bw1 := below_of2 bw1
    replace h0 := h0.below bw1
    replace h1 := h1.below bw1
    replace h2 := h2.below bw1
    replace hb := below_trans hb bw1
    have hx := Ints.of_own ox
    clear bw1 ox
    go_wp2_with fail
    refine (equal_at Ax _ [4, 5] [4, 5] _ _ _ _ _ (by exact Ints.alloc hx _) (by exact Ints.lit _ _ _ _ rfl (by decide)) rfl rfl).mono ?_
    rintro e w2 ⟨rfl, nw2, hww2⟩
    have bw2 := below_of_drewN hww2
    clear hww2
    replace bw2 := below_of1 bw2
    replace h0 := h0.below bw2
    replace h1 := h1.below bw2
    replace h2 := h2.below bw2
    replace hb := below_trans hb bw2
    clear bw2
    rw [eqB_true rfl]
    clear hx
    go_wp2_with fail
    refine (three_any a0 a1 a2 l0 l1 l2 c0 c1 c2 _ h0 h1 h2).mono ?_
    rintro e w' ⟨rfl, rfl⟩
    rw [T1.out]
    go_wp2
    go_ret
    exact ⟨rfl, hb⟩
  cases t2 : okB l1 l2
  · have T1 := Lib.hid t1
    have T2 := Lib.hid t2
    clear t1 t2
    go_enter Try.func10, Try.ntmps10
    go_wp2_with fail
    refine (conv_yes _ _ [1, 2] [3, 9] [4, 5] _ _ _ _ _ conv_lit2 (by decide) (by exact Ints.litA _ _ _ _ _ rfl (by decide)) (by exact Ints.litB _ _ _ _ _ rfl (by decide)) rfl rfl).mono ?_
    rintro e w1 ⟨Ax, cx, rfl, ox, bw1⟩
    replace bw1 := below_of2 bw1
    replace h0 := h0.below bw1
    replace h1 := h1.below bw1
    replace h2 := h2.below bw1
    replace hb := below_trans hb bw1
    have hx := Ints.of_own ox
    clear bw1 ox
    go_wp2_with fail
    refine (equal_at Ax _ [4, 5] [4, 5] _ _ _ _ _ (by exact Ints.alloc hx _) (by exact Ints.lit _ _ _ _ rfl (by decide)) rfl rfl).mono ?_
    rintro e w2 ⟨rfl, nw2, hww2⟩
    have bw2 := below_of_drewN hww2
    clear hww2
    replace bw2 := below_of1 bw2
    replace h0 := h0.below bw2
    replace h1 := h1.below bw2
    replace h2 := h2.below bw2
    replace hb := below_trans hb bw2
    clear bw2
    rw [eqB_true rfl]
    clear hx
    go_wp2_with fail
    refine (three_any a0 a1 a2 l0 l1 l2 c0 c1 c2 _ h0 h1 h2).mono ?_
    rintro e w' ⟨rfl, rfl⟩
    rw [T1.out, T2.out]
    go_wp2
    go_ret
    exact ⟨rfl, hb⟩
  obtain ⟨v0, v1, e01⟩ := chk2_iff.1 (chk2_of_okB t1)
  obtain ⟨_, v2, e12⟩ := chk2_iff.1 (chk2_of_okB t2)
  have T1 := Lib.hid t1
  have T2 := Lib.hid t2
  clear t1 t2
  obtain ⟨x, zx⟩ := ex_conv v0 v2 (by omega)
  obtain ⟨y, zy⟩ := ex_conv v1 v2 e12
  obtain ⟨u, zu⟩ := ex_up v0 (v2.lo 0 v2.pos) (v2.hi 0 v2.pos)
  have p2 := v2.pos
  have q2 : (0 : Int) < (l2.length : Int) := by omega
  clear e01 e12
  cases bx : bigB x
  · cases bu : bigB u
    · have QU := Lib.hid (conv_le_up zx zu bx bu)
      cases by_ : bigB y
      · cases lk : leK l0 l1
        · have LK := Lib.hid lk
          have Bx := Lib.hid bx
          have By := Lib.hid by_
          have Bu := Lib.hid bu
          clear lk bx by_ bu
          go_enter Try.func10, Try.ntmps10
          go_wp2_with fail
          refine (conv_yes _ _ [1, 2] [3, 9] [4, 5] _ _ _ _ _ conv_lit2 (by decide) (by exact Ints.litA _ _ _ _ _ rfl (by decide)) (by exact Ints.litB _ _ _ _ _ rfl (by decide)) rfl rfl).mono ?_
          rintro e w1 ⟨Ax, cx, rfl, ox, bw1⟩
          replace bw1 := below_of2 bw1
          replace h0 := h0.below bw1
          replace h1 := h1.below bw1
          replace h2 := h2.below bw1
          replace hb := below_trans hb bw1
          have hx := Ints.of_own ox
          clear bw1 ox
          go_wp2_with fail
          refine (equal_at Ax _ [4, 5] [4, 5] _ _ _ _ _ (by exact Ints.alloc hx _) (by exact Ints.lit _ _ _ _ rfl (by decide)) rfl rfl).mono ?_
          rintro e w2 ⟨rfl, nw2, hww2⟩
          have bw2 := below_of_drewN hww2
          clear hww2
          replace bw2 := below_of1 bw2
          replace h0 := h0.below bw2
          replace h1 := h1.below bw2
          replace h2 := h2.below bw2
          replace hb := below_trans hb bw2
          clear bw2
          rw [eqB_true rfl]
          clear hx
          go_wp2_with fail
          refine (three_any a0 a1 a2 l0 l1 l2 c0 c1 c2 _ h0 h1 h2).mono ?_
          rintro e w' ⟨rfl, rfl⟩
          rw [T1.out, T2.out]
          go_wp2_with fail
          refine (conv_yes a0 a2 l0 l2 x _ _ c0 c2 _ zx Bx.out h0 h2 rfl rfl).mono ?_
          rintro e w3 ⟨Ax, cx, rfl, ox, bw3⟩
          replace h0 := h0.below bw3
          replace h1 := h1.below bw3
          replace h2 := h2.below bw3
          replace hb := below_trans hb bw3
          have hx := Ints.of_own ox
          clear bw3 ox
          go_wp2_with fail
          refine (conv_yes a1 a2 l1 l2 y _ _ c1 c2 _ zy By.out h1 h2 rfl rfl).mono ?_
          rintro e w4 ⟨Ay, cy, rfl, oy, bw4⟩
          replace h0 := h0.below bw4
          replace h1 := h1.below bw4
          replace h2 := h2.below bw4
          replace hx := hx.below bw4
          replace hb := below_trans hb bw4
          have hy := Ints.of_own oy
          clear bw4 oy
          obtain ⟨bh, oh, rfl, hch⟩ := h2.first p2
          go_wp2_with fail
          refine (up_yes a0 l0 u _ c0 (gt l2 0) _ zu Bu.out h0 rfl).mono ?_
          rintro e w5 ⟨Au, cu, rfl, ou, bw5⟩
          replace h0 := h0.below bw5
          replace h1 := h1.below bw5
          replace h2 := h2.below bw5
          replace hx := hx.below bw5
          replace hy := hy.below bw5
          replace hb := below_trans hb bw5
          have hu := Ints.of_own ou
          clear bw5 ou
          clear hch
          go_wp2_with fail
          refine (kle_any Ax Au x u cx cu _ hx hu).mono ?_
          rintro e w6 ⟨rfl, nw6, hww6⟩
          have bw6 := below_of_drewN hww6
          clear hww6
          replace h0 := h0.below bw6
          replace h1 := h1.below bw6
          replace hx := hx.below bw6
          replace hy := hy.below bw6
          replace hb := below_trans hb bw6
          clear bw6
          rw [QU.out]
          go_wp2_with fail
          refine (kle_any a0 a1 l0 l1 c0 c1 _ h0 h1).mono ?_
          rintro e w7 ⟨rfl, nw7, hww7⟩
          have bw7 := below_of_drewN hww7
          clear hww7
          replace h0 := h0.below bw7
          replace h1 := h1.below bw7
          replace hx := hx.below bw7
          replace hy := hy.below bw7
          replace hb := below_trans hb bw7
          clear bw7
          rw [LK.out]
          go_wp2
          go_ret
          exact ⟨rfl, hb⟩
        · have LK := Lib.hid lk
          have LM := Lib.hid (conv_mono zx zy bx by_ lk)
          have Bx := Lib.hid bx
          have By := Lib.hid by_
          have Bu := Lib.hid bu
          clear lk bx by_ bu
          go_enter Try.func10, Try.ntmps10
          go_wp2_with fail
          refine (conv_yes _ _ [1, 2] [3, 9] [4, 5] _ _ _ _ _ conv_lit2 (by decide) (by exact Ints.litA _ _ _ _ _ rfl (by decide)) (by exact Ints.litB _ _ _ _ _ rfl (by decide)) rfl rfl).mono ?_
          rintro e w1 ⟨Ax, cx, rfl, ox, bw1⟩
          replace bw1 := below_of2 bw1
          replace h0 := h0.below bw1
          replace h1 := h1.below bw1
          replace h2 := h2.below bw1
          replace hb := below_trans hb bw1
          have hx := Ints.of_own ox
          clear bw1 ox
          go_wp2_with fail
          refine (equal_at Ax _ [4, 5] [4, 5] _ _ _ _ _ (by exact Ints.alloc hx _) (by exact Ints.lit _ _ _ _ rfl (by decide)) rfl rfl).mono ?_
          rintro e w2 ⟨rfl, nw2, hww2⟩
          have bw2 := below_of_drewN hww2
          clear hww2
          replace bw2 := below_of1 bw2
          replace h0 := h0.below bw2
          replace h1 := h1.below bw2
          replace h2 := h2.below bw2
          replace hb := below_trans hb bw2
          clear bw2
          rw [eqB_true rfl]
          clear hx
          go_wp2_with fail
          refine (three_any a0 a1 a2 l0 l1 l2 c0 c1 c2 _ h0 h1 h2).mono ?_
          rintro e w' ⟨rfl, rfl⟩
          rw [T1.out, T2.out]
          go_wp2_with fail
          refine (conv_yes a0 a2 l0 l2 x _ _ c0 c2 _ zx Bx.out h0 h2 rfl rfl).mono ?_
          rintro e w3 ⟨Ax, cx, rfl, ox, bw3⟩
          replace h0 := h0.below bw3
          replace h1 := h1.below bw3
          replace h2 := h2.below bw3
          replace hb := below_trans hb bw3
          have hx := Ints.of_own ox
          clear bw3 ox
          go_wp2_with fail
          refine (conv_yes a1 a2 l1 l2 y _ _ c1 c2 _ zy By.out h1 h2 rfl rfl).mono ?_
          rintro e w4 ⟨Ay, cy, rfl, oy, bw4⟩
          replace h0 := h0.below bw4
          replace h1 := h1.below bw4
          replace h2 := h2.below bw4
          replace hx := hx.below bw4
          replace hb := below_trans hb bw4
          have hy := Ints.of_own oy
          clear bw4 oy
          obtain ⟨bh, oh, rfl, hch⟩ := h2.first p2
          go_wp2_with fail
          refine (up_yes a0 l0 u _ c0 (gt l2 0) _ zu Bu.out h0 rfl).mono ?_
          rintro e w5 ⟨Au, cu, rfl, ou, bw5⟩
          replace h0 := h0.below bw5
          replace h1 := h1.below bw5
          replace h2 := h2.below bw5
          replace hx := hx.below bw5
          replace hy := hy.below bw5
          replace hb := below_trans hb bw5
          have hu := Ints.of_own ou
          clear bw5 ou
          clear hch
          go_wp2_with fail
          refine (kle_any Ax Au x u cx cu _ hx hu).mono ?_
          rintro e w6 ⟨rfl, nw6, hww6⟩
          have bw6 := below_of_drewN hww6
          clear hww6
          replace h0 := h0.below bw6
          replace h1 := h1.below bw6
          replace hx := hx.below bw6
          replace hy := hy.below bw6
          replace hb := below_trans hb bw6
          clear bw6
          rw [QU.out]
          go_wp2_with fail
          refine (kle_any a0 a1 l0 l1 c0 c1 _ h0 h1).mono ?_
          rintro e w7 ⟨rfl, nw7, hww7⟩
          have bw7 := below_of_drewN hww7
          clear hww7
          replace h0 := h0.below bw7
          replace h1 := h1.below bw7
          replace hx := hx.below bw7
          replace hy := hy.below bw7
          replace hb := below_trans hb bw7
          clear bw7
          rw [LK.out]
          go_wp2_with fail
          refine (kle_any Ax Ay x y cx cy _ hx hy).mono ?_
          rintro e w8 ⟨rfl, nw8, hww8⟩
          have bw8 := below_of_drewN hww8
          clear hww8
          replace hb := below_trans hb bw8
          clear bw8
          rw [LM.out]
          go_wp2
          go_ret
          exact ⟨rfl, hb⟩
      · have Bx := Lib.hid bx
        have By := Lib.hid by_
        have Bu := Lib.hid bu
        clear bx by_ bu
        go_enter Try.func10, Try.ntmps10
        go_wp2_with fail
        refine (conv_yes _ _ [1, 2] [3, 9] [4, 5] _ _ _ _ _ conv_lit2 (by decide) (by exact Ints.litA _ _ _ _ _ rfl (by decide)) (by exact Ints.litB _ _ _ _ _ rfl (by decide)) rfl rfl).mono ?_
        rintro e w1 ⟨Ax, cx, rfl, ox, bw1⟩
        replace bw1 := below_of2 bw1
        replace h0 := h0.below bw1
        replace h1 := h1.below bw1
        replace h2 := h2.below bw1
        replace hb := below_trans hb bw1
        have hx := Ints.of_own ox
        clear bw1 ox
        go_wp2_with fail
        refine (equal_at Ax _ [4, 5] [4, 5] _ _ _ _ _ (by exact Ints.alloc hx _) (by exact Ints.lit _ _ _ _ rfl (by decide)) rfl rfl).mono ?_
        rintro e w2 ⟨rfl, nw2, hww2⟩
        have bw2 := below_of_drewN hww2
        clear hww2
        replace bw2 := below_of1 bw2
        replace h0 := h0.below bw2
        replace h1 := h1.below bw2
        replace h2 := h2.below bw2
        replace hb := below_trans hb bw2
        clear bw2
        rw [eqB_true rfl]
        clear hx
        go_wp2_with fail
        refine (three_any a0 a1 a2 l0 l1 l2 c0 c1 c2 _ h0 h1 h2).mono ?_
        rintro e w' ⟨rfl, rfl⟩
        rw [T1.out, T2.out]
        go_wp2_with fail
        refine (conv_yes a0 a2 l0 l2 x _ _ c0 c2 _ zx Bx.out h0 h2 rfl rfl).mono ?_
        rintro e w3 ⟨Ax, cx, rfl, ox, bw3⟩
        replace h0 := h0.below bw3
        replace h1 := h1.below bw3
        replace h2 := h2.below bw3
        replace hb := below_trans hb bw3
        have hx := Ints.of_own ox
        clear bw3 ox
        go_wp2_with fail
        refine (conv_no a1 a2 l1 l2 y _ _ c1 c2 _ zy By.out h1 h2 rfl rfl).mono ?_
        rintro e w4 ⟨Ay, cy, rfl, oy, bw4⟩
        replace h0 := h0.below bw4
        replace h1 := h1.below bw4
        replace h2 := h2.below bw4
        replace hx := hx.below bw4
        replace hb := below_trans hb bw4
        have hy := Ints.of_own oy
        clear bw4 oy
        obtain ⟨bh, oh, rfl, hch⟩ := h2.first p2
        go_wp2_with fail
        refine (up_yes a0 l0 u _ c0 (gt l2 0) _ zu Bu.out h0 rfl).mono ?_
        rintro e w5 ⟨Au, cu, rfl, ou, bw5⟩
        replace h0 := h0.below bw5
        replace h1 := h1.below bw5
        replace h2 := h2.below bw5
        replace hx := hx.below bw5
        replace hy := hy.below bw5
        replace hb := below_trans hb bw5
        have hu := Ints.of_own ou
        clear bw5 ou
        clear hch
        go_wp2_with fail
        refine (kle_any Ax Au x u cx cu _ hx hu).mono ?_
        rintro e w6 ⟨rfl, nw6, hww6⟩
        have bw6 := below_of_drewN hww6
        clear hww6
        replace h0 := h0.below bw6
        replace h1 := h1.below bw6
        replace hx := hx.below bw6
        replace hy := hy.below bw6
        replace hb := below_trans hb bw6
        clear bw6
        rw [QU.out]
        go_wp2
        go_ret
        exact ⟨rfl, hb⟩
    · skip
      cases by_ : bigB y
      · cases lk : leK l0 l1
        · have LK := Lib.hid lk
          have Bx := Lib.hid bx
          have By := Lib.hid by_
          have Bu := Lib.hid bu
          clear lk bx by_ bu
          go_enter Try.func10, Try.ntmps10
          go_wp2_with fail
          refine (conv_yes _ _ [1, 2] [3, 9] [4, 5] _ _ _ _ _ conv_lit2 (by decide) (by exact Ints.litA _ _ _ _ _ rfl (by decide)) (by exact Ints.litB _ _ _ _ _ rfl (by decide)) rfl rfl).mono ?_
          rintro e w1 ⟨Ax, cx, rfl, ox, bw1⟩
          replace bw1 := below_of2 bw1
          replace h0 := h0.below bw1
          replace h1 := h1.below bw1
          replace h2 := h2.below bw1
          replace hb := below_trans hb bw1
          have hx := Ints.of_own ox
          clear bw1 ox
          go_wp2_with fail
          refine (equal_at Ax _ [4, 5] [4, 5] _ _ _ _ _ (by exact Ints.alloc hx _) (by exact Ints.lit _ _ _ _ rfl (by decide)) rfl rfl).mono ?_
          rintro e w2 ⟨rfl, nw2, hww2⟩
          have bw2 := below_of_drewN hww2
          clear hww2
          replace bw2 := below_of1 bw2
          replace h0 := h0.below bw2
          replace h1 := h1.below bw2
          replace h2 := h2.below bw2
          replace hb := below_trans hb bw2
          clear bw2
          rw [eqB_true rfl]
          clear hx
          go_wp2_with fail
          refine (three_any a0 a1 a2 l0 l1 l2 c0 c1 c2 _ h0 h1 h2).mono ?_
          rintro e w' ⟨rfl, rfl⟩
          rw [T1.out, T2.out]
          go_wp2_with fail
          refine (conv_yes a0 a2 l0 l2 x _ _ c0 c2 _ zx Bx.out h0 h2 rfl rfl).mono ?_
          rintro e w3 ⟨Ax, cx, rfl, ox, bw3⟩
          replace h0 := h0.below bw3
          replace h1 := h1.below bw3
          replace h2 := h2.below bw3
          replace hb := below_trans hb bw3
          have hx := Ints.of_own ox
          clear bw3 ox
          go_wp2_with fail
          refine (conv_yes a1 a2 l1 l2 y _ _ c1 c2 _ zy By.out h1 h2 rfl rfl).mono ?_
          rintro e w4 ⟨Ay, cy, rfl, oy, bw4⟩
          replace h0 := h0.below bw4
          replace h1 := h1.below bw4
          replace h2 := h2.below bw4
          replace hx := hx.below bw4
          replace hb := below_trans hb bw4
          have hy := Ints.of_own oy
          clear bw4 oy
          obtain ⟨bh, oh, rfl, hch⟩ := h2.first p2
          go_wp2_with fail
          refine (up_no a0 l0 u _ c0 (gt l2 0) _ zu Bu.out h0 rfl).mono ?_
          rintro e w5 ⟨Au, cu, rfl, ou, bw5⟩
          replace h0 := h0.below bw5
          replace h1 := h1.below bw5
          replace h2 := h2.below bw5
          replace hx := hx.below bw5
          replace hy := hy.below bw5
          replace hb := below_trans hb bw5
          have hu := Ints.of_own ou
          clear bw5 ou
          clear hch
          skip
          go_wp2_with fail
          refine (kle_any a0 a1 l0 l1 c0 c1 _ h0 h1).mono ?_
          rintro e w7 ⟨rfl, nw7, hww7⟩
          have bw7 := below_of_drewN hww7
          clear hww7
          replace h0 := h0.below bw7
          replace h1 := h1.below bw7
          replace hx := hx.below bw7
          replace hy := hy.below bw7
          replace hb := below_trans hb bw7
          clear bw7
          rw [LK.out]
          go_wp2
          go_ret
          exact ⟨rfl, hb⟩
        · have LK := Lib.hid lk
          have LM := Lib.hid (conv_mono zx zy bx by_ lk)
          have Bx := Lib.hid bx
          have By := Lib.hid by_
          have Bu := Lib.hid bu
          clear lk bx by_ bu
          go_enter Try.func10, Try.ntmps10
          go_wp2_with fail
          refine (conv_yes _ _ [1, 2] [3, 9] [4, 5] _ _ _ _ _ conv_lit2 (by decide) (by exact Ints.litA _ _ _ _ _ rfl (by decide)) (by exact Ints.litB _ _ _ _ _ rfl (by decide)) rfl rfl).mono ?_
          rintro e w1 ⟨Ax, cx, rfl, ox, bw1⟩
          replace bw1 := below_of2 bw1
          replace h0 := h0.below bw1
          replace h1 := h1.below bw1
          replace h2 := h2.below bw1
          replace hb := below_trans hb bw1
          have hx := Ints.of_own ox
          clear bw1 ox
          go_wp2_with fail
          refine (equal_at Ax _ [4, 5] [4, 5] _ _ _ _ _ (by exact Ints.alloc hx _) (by exact Ints.lit _ _ _ _ rfl (by decide)) rfl rfl).mono ?_
          rintro e w2 ⟨rfl, nw2, hww2⟩
          have bw2 := below_of_drewN hww2
          clear hww2
          replace bw2 := below_of1 bw2
          replace h0 := h0.below bw2
          replace h1 := h1.below bw2
          replace h2 := h2.below bw2
          replace hb := below_trans hb bw2
          clear bw2
          rw [eqB_true rfl]
          clear hx
          go_wp2_with fail
          refine (three_any a0 a1 a2 l0 l1 l2 c0 c1 c2 _ h0 h1 h2).mono ?_
          rintro e w' ⟨rfl, rfl⟩
          rw [T1.out, T2.out]
          go_wp2_with fail
          refine (conv_yes a0 a2 l0 l2 x _ _ c0 c2 _ zx Bx.out h0 h2 rfl rfl).mono ?_
          rintro e w3 ⟨Ax, cx, rfl, ox, bw3⟩
          replace h0 := h0.below bw3
          replace h1 := h1.below bw3
          replace h2 := h2.below bw3
          replace hb := below_trans hb bw3
          have hx := Ints.of_own ox
          clear bw3 ox
          go_wp2_with fail
          refine (conv_yes a1 a2 l1 l2 y _ _ c1 c2 _ zy By.out h1 h2 rfl rfl).mono ?_
          rintro e w4 ⟨Ay, cy, rfl, oy, bw4⟩
          replace h0 := h0.below bw4
          replace h1 := h1.below bw4
          replace h2 := h2.below bw4
          replace hx := hx.below bw4
          replace hb := below_trans hb bw4
          have hy := Ints.of_own oy
          clear bw4 oy
          obtain ⟨bh, oh, rfl, hch⟩ := h2.first p2
          go_wp2_with fail
          refine (up_no a0 l0 u _ c0 (gt l2 0) _ zu Bu.out h0 rfl).mono ?_
          rintro e w5 ⟨Au, cu, rfl, ou, bw5⟩
          replace h0 := h0.below bw5
          replace h1 := h1.below bw5
          replace h2 := h2.below bw5
          replace hx := hx.below bw5
          replace hy := hy.below bw5
          replace hb := below_trans hb bw5
          have hu := Ints.of_own ou
          clear bw5 ou
          clear hch
          skip
          go_wp2_with fail
          refine (kle_any a0 a1 l0 l1 c0 c1 _ h0 h1).mono ?_
          rintro e w7 ⟨rfl, nw7, hww7⟩
          have bw7 := below_of_drewN hww7
          clear hww7
          replace h0 := h0.below bw7
          replace h1 := h1.below bw7
          replace hx := hx.below bw7
          replace hy := hy.below bw7
          replace hb := below_trans hb bw7
          clear bw7
          rw [LK.out]
          go_wp2_with fail
          refine (kle_any Ax Ay x y cx cy _ hx hy).mono ?_
          rintro e w8 ⟨rfl, nw8, hww8⟩
          have bw8 := below_of_drewN hww8
          clear hww8
          replace hb := below_trans hb bw8
          clear bw8
          rw [LM.out]
          go_wp2
          go_ret
          exact ⟨rfl, hb⟩
      · have Bx := Lib.hid bx
        have By := Lib.hid by_
        have Bu := Lib.hid bu
        clear bx by_ bu
        go_enter Try.func10, Try.ntmps10
        go_wp2_with fail
        refine (conv_yes _ _ [1, 2] [3, 9] [4, 5] _ _ _ _ _ conv_lit2 (by decide) (by exact Ints.litA _ _ _ _ _ rfl (by decide)) (by exact Ints.litB _ _ _ _ _ rfl (by decide)) rfl rfl).mono ?_
        rintro e w1 ⟨Ax, cx, rfl, ox, bw1⟩
        replace bw1 := below_of2 bw1
        replace h0 := h0.below bw1
        replace h1 := h1.below bw1
        replace h2 := h2.below bw1
        replace hb := below_trans hb bw1
        have hx := Ints.of_own ox
        clear bw1 ox
        go_wp2_with fail
        refine (equal_at Ax _ [4, 5] [4, 5] _ _ _ _ _ (by exact Ints.alloc hx _) (by exact Ints.lit _ _ _ _ rfl (by decide)) rfl rfl).mono ?_
        rintro e w2 ⟨rfl, nw2, hww2⟩
        have bw2 := below_of_drewN hww2
        clear hww2
        replace bw2 := below_of1 bw2
        replace h0 := h0.below bw2
        replace h1 := h1.below bw2
        replace h2 := h2.below bw2
        replace hb := below_trans hb bw2
        clear bw2
        rw [eqB_true rfl]
        clear hx
        go_wp2_with fail
        refine (three_any a0 a1 a2 l0 l1 l2 c0 c1 c2 _ h0 h1 h2).mono ?_
        rintro e w' ⟨rfl, rfl⟩
        rw [T1.out, T2.out]
        go_wp2_with fail
        refine (conv_yes a0 a2 l0 l2 x _ _ c0 c2 _ zx Bx.out h0 h2 rfl rfl).mono ?_
        rintro e w3 ⟨Ax, cx, rfl, ox, bw3⟩
        replace h0 := h0.below bw3
        replace h1 := h1.below bw3
        replace h2 := h2.below bw3
        replace hb := below_trans hb bw3
        have hx := Ints.of_own ox
        clear bw3 ox
        go_wp2_with fail
        refine (conv_no a1 a2 l1 l2 y _ _ c1 c2 _ zy By.out h1 h2 rfl rfl).mono ?_
        rintro e w4 ⟨Ay, cy, rfl, oy, bw4⟩
        replace h0 := h0.below bw4
        replace h1 := h1.below bw4
        replace h2 := h2.below bw4
        replace hx := hx.below bw4
        replace hb := below_trans hb bw4
        have hy := Ints.of_own oy
        clear bw4 oy
        obtain ⟨bh, oh, rfl, hch⟩ := h2.first p2
        go_wp2_with fail
        refine (up_no a0 l0 u _ c0 (gt l2 0) _ zu Bu.out h0 rfl).mono ?_
        rintro e w5 ⟨Au, cu, rfl, ou, bw5⟩
        replace h0 := h0.below bw5
        replace h1 := h1.below bw5
        replace h2 := h2.below bw5
        replace hx := hx.below bw5
        replace hy := hy.below bw5
        replace hb := below_trans hb bw5
        have hu := Ints.of_own ou
        clear bw5 ou
        clear hch
        skip
        go_wp2
        go_ret
        exact ⟨rfl, hb⟩
  · have Bx := Lib.hid bx
    clear bx
    go_enter Try.func10, Try.ntmps10
    go_wp2_with fail
    refine (conv_yes _ _ [1, 2] [3, 9] [4, 5] _ _ _ _ _ conv_lit2 (by decide) (by exact Ints.litA _ _ _ _ _ rfl (by decide)) (by exact Ints.litB _ _ _ _ _ rfl (by decide)) rfl rfl).mono ?_
    rintro e w1 ⟨Ax, cx, rfl, ox, bw1⟩
    replace bw1 := below_of2 bw1
    replace h0 := h0.below bw1
    replace h1 := h1.below bw1
    replace h2 := h2.below bw1
    replace hb := below_trans hb bw1
    have hx := Ints.of_own ox
    clear bw1 ox
    go_wp2_with fail
    refine (equal_at Ax _ [4, 5] [4, 5] _ _ _ _ _ (by exact Ints.alloc hx _) (by exact Ints.lit _ _ _ _ rfl (by decide)) rfl rfl).mono ?_
    rintro e w2 ⟨rfl, nw2, hww2⟩
    have bw2 := below_of_drewN hww2
    clear hww2
    replace bw2 := below_of1 bw2
    replace h0 := h0.below bw2
    replace h1 := h1.below bw2
    replace h2 := h2.below bw2
    replace hb := below_trans hb bw2
    clear bw2
    rw [eqB_true rfl]
    clear hx
    go_wp2_with fail
    refine (three_any a0 a1 a2 l0 l1 l2 c0 c1 c2 _ h0 h1 h2).mono ?_
    rintro e w' ⟨rfl, rfl⟩
    rw [T1.out, T2.out]
    go_wp2_with fail
    refine (conv_no a0 a2 l0 l2 x _ _ c0 c2 _ zx Bx.out h0 h2 rfl rfl).mono ?_
    rintro e w3 ⟨Ax, cx, rfl, ox, bw3⟩
    replace h0 := h0.below bw3
    replace h1 := h1.below bw3
    replace h2 := h2.below bw3
    replace hb := below_trans hb bw3
    have hx := Ints.of_own ox
    clear bw3 ox
    go_wp2_with fail
    refine (conv_ok a1 a2 l1 l2 y _ _ c1 c2 _ zy h1 h2 rfl rfl).mono ?_
    rintro e w4 ⟨Ay, cy, rfl, oy, bw4⟩
    replace h0 := h0.below bw4
    replace h1 := h1.below bw4
    replace h2 := h2.below bw4
    replace hx := hx.below bw4
    replace hb := below_trans hb bw4
    have hy := Ints.of_own oy
    clear bw4 oy
    obtain ⟨bh, oh, rfl, hch⟩ := h2.first p2
    go_wp2_with fail
    refine (up_ok a0 l0 u _ c0 (gt l2 0) _ zu h0 rfl).mono ?_
    rintro e w5 ⟨Au, cu, rfl, ou, bw5⟩
    replace h0 := h0.below bw5
    replace h1 := h1.below bw5
    replace h2 := h2.below bw5
    replace hx := hx.below bw5
    replace hy := hy.below bw5
    replace hb := below_trans hb bw5
    have hu := Ints.of_own ou
    clear bw5 ou
    clear hch
    go_wp2
    go_ret
    exact ⟨rfl, hb⟩

end Go.Proofs.Ythjdabmlilnepaa
