
/-
  The walk of the law TraceSums.
-/
import Derived.Test.YtaopeofcmnckfaaBoundK
namespace Go.Proofs.Ytaopeofcmnckfaa
set_option linter.all false
open Go.RowKit Go.Shelf


theorem fit_sums {f g a b x y : List Int} (h1 : Fit f a) (h2 : Fit g b) (zx : Sums f g x) (zy : Sums a b y) (e : f.length = a.length) : Fit x y := by
  have e1 := zx.len; have e2 := zx.rlen; have e3 := zy.len; have e4 := zy.rlen
  intro s d hd
  have q1 := h1 s d (by omega); have q2 := h2 s d (by omega)
  rw [zx.val _ (by omega), zx.val _ (by omega), zy.val _ (by omega)]
  omega

set_option maxHeartbeats 3200000 in
theorem walk_TraceSums (a0 : Option Addr) (c0 : Nat) (l0 : List Int) (a1 : Option Addr) (c1 : Nat) (l1 : List Int) (a2 : Option Addr) (c2 : Nat) (l2 : List Int) (a3 : Option Addr) (c3 : Nat) (l3 : List Int) (w : World)
    (h0 : Ints w a0 l0) (k0 : l0.length ≤ c0) (h1 : Ints w a1 l1) (k1 : l1.length ≤ c1) (h2 : Ints w a2 l2) (k2 : l2.length ≤ c2) (h3 : Ints w a3 l3) (k3 : l3.length ≤ c3) :
    Calls Try.prog 9 #[.slice a0 l0.length c0, .slice a1 l1.length c1, .slice a2 l2.length c2, .slice a3 l3.length c3] w fun e w' => e = .returned (.bool true) ∧ Below w.heap.size w w' := by
  have hb : Below w.heap.size w w := Below.refl _ _
  cases t1 : okB l0 l1
  · have T1 := Lib.hid t1
    clear t1
    go_enter Try.func9, Try.ntmps9
    go_wp2_with fail
    refine (fit_lits _ _ [0, 1] [0, 0] _ _ _ _ false _ (by decide) (by decide) (by exact Ints.litA _ _ _ _ _ rfl (by decide)) (by exact Ints.litB _ _ _ _ _ rfl (by decide)) (by decide) rfl rfl).mono ?_
    rintro e w1 ⟨rfl, bw1⟩
    replace bw1 := below_of2 bw1
    replace h0 := h0.below bw1
    replace h1 := h1.below bw1
    replace h2 := h2.below bw1
    replace h3 := h3.below bw1
    replace hb := below_trans hb bw1
    clear bw1
    go_wp2_with fail
    refine (fit_lits _ _ [0, 1] [0, 1] _ _ _ _ true _ (by decide) (by decide) (by exact Ints.litA _ _ _ _ _ rfl (by decide)) (by exact Ints.litB _ _ _ _ _ rfl (by decide)) (by decide) rfl rfl).mono ?_
    rintro e w2 ⟨rfl, bw2⟩
    replace bw2 := below_of2 bw2
    replace h0 := h0.below bw2
    replace h1 := h1.below bw2
    replace h2 := h2.below bw2
    replace h3 := h3.below bw2
    replace hb := below_trans hb bw2
    clear bw2
    go_wp2_with fail
    refine (three_any a0 a1 a2 l0 l1 l2 c0 c1 c2 _ h0 h1 h2).mono ?_
    rintro e w' ⟨rfl, rfl⟩
    rw [T1.out]
    go_wp2
    go_ret
    exact ⟨rfl, hb⟩
  cases t2 : okB l1 l2
  · have T1 := Lib.hid t1
    have T2 := Lib.hid t2
    clear t1 t2
    go_enter Try.func9, Try.ntmps9
    go_wp2_with fail
    refine (fit_lits _ _ [0, 1] [0, 0] _ _ _ _ false _ (by decide) (by decide) (by exact Ints.litA _ _ _ _ _ rfl (by decide)) (by exact Ints.litB _ _ _ _ _ rfl (by decide)) (by decide) rfl rfl).mono ?_
    rintro e w1 ⟨rfl, bw1⟩
    replace bw1 := below_of2 bw1
    replace h0 := h0.below bw1
    replace h1 := h1.below bw1
    replace h2 := h2.below bw1
    replace h3 := h3.below bw1
    replace hb := below_trans hb bw1
    clear bw1
    go_wp2_with fail
    refine (fit_lits _ _ [0, 1] [0, 1] _ _ _ _ true _ (by decide) (by decide) (by exact Ints.litA _ _ _ _ _ rfl (by decide)) (by exact Ints.litB _ _ _ _ _ rfl (by decide)) (by decide) rfl rfl).mono ?_
    rintro e w2 ⟨rfl, bw2⟩
    replace bw2 := below_of2 bw2
    replace h0 := h0.below bw2
    replace h1 := h1.below bw2
    replace h2 := h2.below bw2
    replace h3 := h3.below bw2
    replace hb := below_trans hb bw2
    clear bw2
    go_wp2_with fail
    refine (three_any a0 a1 a2 l0 l1 l2 c0 c1 c2 _ h0 h1 h2).mono ?_
    rintro e w' ⟨rfl, rfl⟩
    rw [T1.out, T2.out]
    go_wp2
    go_ret
    exact ⟨rfl, hb⟩
  obtain ⟨v0, v1, e01⟩ := chk2_iff.1 (chk2_of_okB t1)
  obtain ⟨_, v2, e12⟩ := chk2_iff.1 (chk2_of_okB t2)
  have T1 := Lib.hid t1
  have T2 := Lib.hid t2
  clear t1 t2
  cases t3 : okB l2 l3
  · have T3 := Lib.hid t3
    clear t3 e01 e12
    go_enter Try.func9, Try.ntmps9
    go_wp2_with fail
    refine (fit_lits _ _ [0, 1] [0, 0] _ _ _ _ false _ (by decide) (by decide) (by exact Ints.litA _ _ _ _ _ rfl (by decide)) (by exact Ints.litB _ _ _ _ _ rfl (by decide)) (by decide) rfl rfl).mono ?_
    rintro e w1 ⟨rfl, bw1⟩
    replace bw1 := below_of2 bw1
    replace h0 := h0.below bw1
    replace h1 := h1.below bw1
    replace h2 := h2.below bw1
    replace h3 := h3.below bw1
    replace hb := below_trans hb bw1
    clear bw1
    go_wp2_with fail
    refine (fit_lits _ _ [0, 1] [0, 1] _ _ _ _ true _ (by decide) (by decide) (by exact Ints.litA _ _ _ _ _ rfl (by decide)) (by exact Ints.litB _ _ _ _ _ rfl (by decide)) (by decide) rfl rfl).mono ?_
    rintro e w2 ⟨rfl, bw2⟩
    replace bw2 := below_of2 bw2
    replace h0 := h0.below bw2
    replace h1 := h1.below bw2
    replace h2 := h2.below bw2
    replace h3 := h3.below bw2
    replace hb := below_trans hb bw2
    clear bw2
    go_wp2_with fail
    refine (three_any a0 a1 a2 l0 l1 l2 c0 c1 c2 _ h0 h1 h2).mono ?_
    rintro e w' ⟨rfl, rfl⟩
    rw [T1.out, T2.out]
    go_wp2_with fail
    refine (both_any a2 a3 l2 l3 c2 c3 _ h2 h3).mono ?_
    rintro e w' ⟨rfl, rfl⟩
    rw [T3.out]
    go_wp2
    go_ret
    exact ⟨rfl, hb⟩
  obtain ⟨_, v3, e23⟩ := chk2_iff.1 (chk2_of_okB t3)
  have T3 := Lib.hid t3
  obtain ⟨m, zm⟩ := ex_min v2 v3 e23
  have vm := zm.r
  have em := zm.rlen
  obtain ⟨x, zx⟩ := ex_sum v0 v1 e01
  obtain ⟨y, zy⟩ := ex_sum v2 v3 e23
  obtain ⟨fb, hfb⟩ : ∃ s, s = fitB l0 l3 := ⟨_, rfl⟩
  obtain ⟨gb, hgb⟩ : ∃ s, s = fitB l1 l3 := ⟨_, rfl⟩
  have S2 : Hid (Hid (fitB l0 l3 = fb)) := Lib.hid (Lib.hid hfb.symm)
  have S4 : Hid (Hid (fitB l1 l3 = gb)) := Lib.hid (Lib.hid hgb.symm)
  have E02 : Hid (l0.length = l2.length) := Lib.hid (by omega)
  have E03 : Hid (l0.length = l3.length) := Lib.hid (by omega)
  have E13 : Hid (l1.length = l3.length) := Lib.hid (by omega)
  have EM : Hid (l0.length = m.length) := Lib.hid (by omega)
  have FM : Hid (fitB l0 m = true ↔ fitB l0 l2 = true ∧ fitB l0 l3 = true) := Lib.hid (by
    rw [fitB_iff v0 vm EM.out, fitB_iff v0 v2 E02.out, fitB_iff v0 v3 E03.out]
    exact fit_min E02.out zm)
  have t4 : (fb != fb) = false := by simp
  cases s1 : fitB l0 l2
  · have S1 := Lib.hid s1
    have S3 : Hid (fitB l0 m = false) := Lib.hid (by
      cases q : fitB l0 m
      · rfl
      · have := (FM.out.1 q).1; rw [s1] at this; cases this)
    cases bx : bigB x
    · cases sy : bigB y
      · have Bx := Lib.hid bx
        clear bx
        have SY := Lib.hid sy
        clear t3 e01 e12 e23 em s1 sy hfb hgb FM
        go_enter Try.func9, Try.ntmps9
        go_wp2_with fail
        refine (fit_lits _ _ [0, 1] [0, 0] _ _ _ _ false _ (by decide) (by decide) (by exact Ints.litA _ _ _ _ _ rfl (by decide)) (by exact Ints.litB _ _ _ _ _ rfl (by decide)) (by decide) rfl rfl).mono ?_
        rintro e w1 ⟨rfl, bw1⟩
        replace bw1 := below_of2 bw1
        replace h0 := h0.below bw1
        replace h1 := h1.below bw1
        replace h2 := h2.below bw1
        replace h3 := h3.below bw1
        replace hb := below_trans hb bw1
        clear bw1
        go_wp2_with fail
        refine (fit_lits _ _ [0, 1] [0, 1] _ _ _ _ true _ (by decide) (by decide) (by exact Ints.litA _ _ _ _ _ rfl (by decide)) (by exact Ints.litB _ _ _ _ _ rfl (by decide)) (by decide) rfl rfl).mono ?_
        rintro e w2 ⟨rfl, bw2⟩
        replace bw2 := below_of2 bw2
        replace h0 := h0.below bw2
        replace h1 := h1.below bw2
        replace h2 := h2.below bw2
        replace h3 := h3.below bw2
        replace hb := below_trans hb bw2
        clear bw2
        go_wp2_with fail
        refine (three_any a0 a1 a2 l0 l1 l2 c0 c1 c2 _ h0 h1 h2).mono ?_
        rintro e w' ⟨rfl, rfl⟩
        rw [T1.out, T2.out]
        go_wp2_with fail
        refine (both_any a2 a3 l2 l3 c2 c3 _ h2 h3).mono ?_
        rintro e w' ⟨rfl, rfl⟩
        rw [T3.out]
        go_wp2_with fail
        refine (fits_yes a0 a2 l0 l2 _ _ c0 c2 false _ v0 v2 E02.out S1 h0 h2 k0 rfl rfl).mono ?_
        rintro e w3 ⟨rfl, bw3⟩
        replace h0 := h0.below bw3
        replace h1 := h1.below bw3
        replace h2 := h2.below bw3
        replace h3 := h3.below bw3
        replace hb := below_trans hb bw3
        clear bw3
        go_wp2_with fail
        refine (fits_yes a0 a3 l0 l3 _ _ c0 c3 fb _ v0 v3 E03.out S2.out h0 h3 k0 rfl rfl).mono ?_
        rintro e w4 ⟨rfl, bw4⟩
        replace h0 := h0.below bw4
        replace h1 := h1.below bw4
        replace h2 := h2.below bw4
        replace h3 := h3.below bw4
        replace hb := below_trans hb bw4
        clear bw4
        go_wp2_with fail
        refine (fits_yes a1 a3 l1 l3 _ _ c1 c3 gb _ v1 v3 E13.out S4.out h1 h3 k1 rfl rfl).mono ?_
        rintro e w5 ⟨rfl, bw5⟩
        replace h0 := h0.below bw5
        replace h1 := h1.below bw5
        replace h2 := h2.below bw5
        replace h3 := h3.below bw5
        replace hb := below_trans hb bw5
        clear bw5
        go_wp2_with fail
        refine (pmin_at a2 a3 l2 l3 m _ _ c2 c3 _ zm h2 h3 rfl rfl).mono ?_
        rintro e w6 ⟨Am, cm, rfl, om, bw6⟩
        replace h0 := h0.below bw6
        replace h1 := h1.below bw6
        replace h2 := h2.below bw6
        replace h3 := h3.below bw6
        replace hb := below_trans hb bw6
        have hm := Ints.of_own om
        clear bw6 om
        go_wp2_with fail
        refine (fits_yes a0 Am l0 m _ _ c0 cm false _ v0 vm EM.out S3 h0 hm k0 rfl rfl).mono ?_
        rintro e w7 ⟨rfl, bw7⟩
        replace h0 := h0.below bw7
        replace h1 := h1.below bw7
        replace h2 := h2.below bw7
        replace h3 := h3.below bw7
        replace hb := below_trans hb bw7
        clear bw7
        clear hm
        go_wp2_with fail
        refine (psum_yes a0 a1 l0 l1 x _ _ c0 c1 _ zx Bx.out h0 h1 rfl rfl).mono ?_
        rintro e w8 ⟨Ax, cx, rfl, ox, bw8⟩
        replace h0 := h0.below bw8
        replace h1 := h1.below bw8
        replace h2 := h2.below bw8
        replace h3 := h3.below bw8
        replace hb := below_trans hb bw8
        have hx := Ints.of_own ox
        clear bw8 ox
        go_wp2_with fail
        refine (psum_yes a2 a3 l2 l3 y _ _ c2 c3 _ zy SY.out h2 h3 rfl rfl).mono ?_
        rintro e w9 ⟨Ay, cy, rfl, oy, bw9⟩
        replace hx := hx.below bw9
        replace hb := below_trans hb bw9
        have hy := Ints.of_own oy
        clear bw9 oy
        go_wp2
        go_ret
        exact ⟨rfl, hb⟩
      · have Bx := Lib.hid bx
        clear bx
        have SY := Lib.hid sy
        clear t3 e01 e12 e23 em s1 sy hfb hgb FM
        go_enter Try.func9, Try.ntmps9
        go_wp2_with fail
        refine (fit_lits _ _ [0, 1] [0, 0] _ _ _ _ false _ (by decide) (by decide) (by exact Ints.litA _ _ _ _ _ rfl (by decide)) (by exact Ints.litB _ _ _ _ _ rfl (by decide)) (by decide) rfl rfl).mono ?_
        rintro e w1 ⟨rfl, bw1⟩
        replace bw1 := below_of2 bw1
        replace h0 := h0.below bw1
        replace h1 := h1.below bw1
        replace h2 := h2.below bw1
        replace h3 := h3.below bw1
        replace hb := below_trans hb bw1
        clear bw1
        go_wp2_with fail
        refine (fit_lits _ _ [0, 1] [0, 1] _ _ _ _ true _ (by decide) (by decide) (by exact Ints.litA _ _ _ _ _ rfl (by decide)) (by exact Ints.litB _ _ _ _ _ rfl (by decide)) (by decide) rfl rfl).mono ?_
        rintro e w2 ⟨rfl, bw2⟩
        replace bw2 := below_of2 bw2
        replace h0 := h0.below bw2
        replace h1 := h1.below bw2
        replace h2 := h2.below bw2
        replace h3 := h3.below bw2
        replace hb := below_trans hb bw2
        clear bw2
        go_wp2_with fail
        refine (three_any a0 a1 a2 l0 l1 l2 c0 c1 c2 _ h0 h1 h2).mono ?_
        rintro e w' ⟨rfl, rfl⟩
        rw [T1.out, T2.out]
        go_wp2_with fail
        refine (both_any a2 a3 l2 l3 c2 c3 _ h2 h3).mono ?_
        rintro e w' ⟨rfl, rfl⟩
        rw [T3.out]
        go_wp2_with fail
        refine (fits_yes a0 a2 l0 l2 _ _ c0 c2 false _ v0 v2 E02.out S1 h0 h2 k0 rfl rfl).mono ?_
        rintro e w3 ⟨rfl, bw3⟩
        replace h0 := h0.below bw3
        replace h1 := h1.below bw3
        replace h2 := h2.below bw3
        replace h3 := h3.below bw3
        replace hb := below_trans hb bw3
        clear bw3
        go_wp2_with fail
        refine (fits_yes a0 a3 l0 l3 _ _ c0 c3 fb _ v0 v3 E03.out S2.out h0 h3 k0 rfl rfl).mono ?_
        rintro e w4 ⟨rfl, bw4⟩
        replace h0 := h0.below bw4
        replace h1 := h1.below bw4
        replace h2 := h2.below bw4
        replace h3 := h3.below bw4
        replace hb := below_trans hb bw4
        clear bw4
        go_wp2_with fail
        refine (fits_yes a1 a3 l1 l3 _ _ c1 c3 gb _ v1 v3 E13.out S4.out h1 h3 k1 rfl rfl).mono ?_
        rintro e w5 ⟨rfl, bw5⟩
        replace h0 := h0.below bw5
        replace h1 := h1.below bw5
        replace h2 := h2.below bw5
        replace h3 := h3.below bw5
        replace hb := below_trans hb bw5
        clear bw5
        go_wp2_with fail
        refine (pmin_at a2 a3 l2 l3 m _ _ c2 c3 _ zm h2 h3 rfl rfl).mono ?_
        rintro e w6 ⟨Am, cm, rfl, om, bw6⟩
        replace h0 := h0.below bw6
        replace h1 := h1.below bw6
        replace h2 := h2.below bw6
        replace h3 := h3.below bw6
        replace hb := below_trans hb bw6
        have hm := Ints.of_own om
        clear bw6 om
        go_wp2_with fail
        refine (fits_yes a0 Am l0 m _ _ c0 cm false _ v0 vm EM.out S3 h0 hm k0 rfl rfl).mono ?_
        rintro e w7 ⟨rfl, bw7⟩
        replace h0 := h0.below bw7
        replace h1 := h1.below bw7
        replace h2 := h2.below bw7
        replace h3 := h3.below bw7
        replace hb := below_trans hb bw7
        clear bw7
        clear hm
        go_wp2_with fail
        refine (psum_yes a0 a1 l0 l1 x _ _ c0 c1 _ zx Bx.out h0 h1 rfl rfl).mono ?_
        rintro e w8 ⟨Ax, cx, rfl, ox, bw8⟩
        replace h0 := h0.below bw8
        replace h1 := h1.below bw8
        replace h2 := h2.below bw8
        replace h3 := h3.below bw8
        replace hb := below_trans hb bw8
        have hx := Ints.of_own ox
        clear bw8 ox
        go_wp2_with fail
        refine (psum_no a2 a3 l2 l3 y _ _ c2 c3 _ zy SY.out h2 h3 rfl rfl).mono ?_
        rintro e w9 ⟨Ay, cy, rfl, oy, bw9⟩
        replace hx := hx.below bw9
        replace hb := below_trans hb bw9
        have hy := Ints.of_own oy
        clear bw9 oy
        go_wp2
        go_ret
        exact ⟨rfl, hb⟩
    · have Bx := Lib.hid bx
      clear bx
      clear t3 e01 e12 e23 em s1 hfb hgb FM
      go_enter Try.func9, Try.ntmps9
      go_wp2_with fail
      refine (fit_lits _ _ [0, 1] [0, 0] _ _ _ _ false _ (by decide) (by decide) (by exact Ints.litA _ _ _ _ _ rfl (by decide)) (by exact Ints.litB _ _ _ _ _ rfl (by decide)) (by decide) rfl rfl).mono ?_
      rintro e w1 ⟨rfl, bw1⟩
      replace bw1 := below_of2 bw1
      replace h0 := h0.below bw1
      replace h1 := h1.below bw1
      replace h2 := h2.below bw1
      replace h3 := h3.below bw1
      replace hb := below_trans hb bw1
      clear bw1
      go_wp2_with fail
      refine (fit_lits _ _ [0, 1] [0, 1] _ _ _ _ true _ (by decide) (by decide) (by exact Ints.litA _ _ _ _ _ rfl (by decide)) (by exact Ints.litB _ _ _ _ _ rfl (by decide)) (by decide) rfl rfl).mono ?_
      rintro e w2 ⟨rfl, bw2⟩
      replace bw2 := below_of2 bw2
      replace h0 := h0.below bw2
      replace h1 := h1.below bw2
      replace h2 := h2.below bw2
      replace h3 := h3.below bw2
      replace hb := below_trans hb bw2
      clear bw2
      go_wp2_with fail
      refine (three_any a0 a1 a2 l0 l1 l2 c0 c1 c2 _ h0 h1 h2).mono ?_
      rintro e w' ⟨rfl, rfl⟩
      rw [T1.out, T2.out]
      go_wp2_with fail
      refine (both_any a2 a3 l2 l3 c2 c3 _ h2 h3).mono ?_
      rintro e w' ⟨rfl, rfl⟩
      rw [T3.out]
      go_wp2_with fail
      refine (fits_yes a0 a2 l0 l2 _ _ c0 c2 false _ v0 v2 E02.out S1 h0 h2 k0 rfl rfl).mono ?_
      rintro e w3 ⟨rfl, bw3⟩
      replace h0 := h0.below bw3
      replace h1 := h1.below bw3
      replace h2 := h2.below bw3
      replace h3 := h3.below bw3
      replace hb := below_trans hb bw3
      clear bw3
      go_wp2_with fail
      refine (fits_yes a0 a3 l0 l3 _ _ c0 c3 fb _ v0 v3 E03.out S2.out h0 h3 k0 rfl rfl).mono ?_
      rintro e w4 ⟨rfl, bw4⟩
      replace h0 := h0.below bw4
      replace h1 := h1.below bw4
      replace h2 := h2.below bw4
      replace h3 := h3.below bw4
      replace hb := below_trans hb bw4
      clear bw4
      go_wp2_with fail
      refine (fits_yes a1 a3 l1 l3 _ _ c1 c3 gb _ v1 v3 E13.out S4.out h1 h3 k1 rfl rfl).mono ?_
      rintro e w5 ⟨rfl, bw5⟩
      replace h0 := h0.below bw5
      replace h1 := h1.below bw5
      replace h2 := h2.below bw5
      replace h3 := h3.below bw5
      replace hb := below_trans hb bw5
      clear bw5
      go_wp2_with fail
      refine (pmin_at a2 a3 l2 l3 m _ _ c2 c3 _ zm h2 h3 rfl rfl).mono ?_
      rintro e w6 ⟨Am, cm, rfl, om, bw6⟩
      replace h0 := h0.below bw6
      replace h1 := h1.below bw6
      replace h2 := h2.below bw6
      replace h3 := h3.below bw6
      replace hb := below_trans hb bw6
      have hm := Ints.of_own om
      clear bw6 om
      go_wp2_with fail
      refine (fits_yes a0 Am l0 m _ _ c0 cm false _ v0 vm EM.out S3 h0 hm k0 rfl rfl).mono ?_
      rintro e w7 ⟨rfl, bw7⟩
      replace h0 := h0.below bw7
      replace h1 := h1.below bw7
      replace h2 := h2.below bw7
      replace h3 := h3.below bw7
      replace hb := below_trans hb bw7
      clear bw7
      clear hm
      go_wp2_with fail
      refine (psum_no a0 a1 l0 l1 x _ _ c0 c1 _ zx Bx.out h0 h1 rfl rfl).mono ?_
      rintro e w8 ⟨Ax, cx, rfl, ox, bw8⟩
      replace h0 := h0.below bw8
      replace h1 := h1.below bw8
      replace h2 := h2.below bw8
      replace h3 := h3.below bw8
      replace hb := below_trans hb bw8
      have hx := Ints.of_own ox
      clear bw8 ox
      go_wp2_with fail
      refine (sum_ok a2 a3 l2 l3 y _ _ c2 c3 _ zy h2 h3 rfl rfl).mono ?_
      rintro e w9 ⟨Ay, cy, rfl, oy, bw9⟩
      replace hx := hx.below bw9
      replace hb := below_trans hb bw9
      have hy := Ints.of_own oy
      clear bw9 oy
      go_wp2
      go_ret
      exact ⟨rfl, hb⟩
  · have S1 := Lib.hid s1
    have S3 : Hid (fitB l0 m = fb) := Lib.hid (by
      apply bool_eq
      rw [FM.out, hfb, s1]
      simp)
    cases bx : bigB x
    · cases sy : bigB y
      · cases s4 : fitB l1 l3
        · have S5 := Lib.hid s4
          have Bx := Lib.hid bx
          clear bx
          have SY := Lib.hid sy
          clear t3 e01 e12 e23 em s1 sy hfb hgb FM s4 S4
          go_enter Try.func9, Try.ntmps9
          go_wp2_with fail
          refine (fit_lits _ _ [0, 1] [0, 0] _ _ _ _ false _ (by decide) (by decide) (by exact Ints.litA _ _ _ _ _ rfl (by decide)) (by exact Ints.litB _ _ _ _ _ rfl (by decide)) (by decide) rfl rfl).mono ?_
          rintro e w1 ⟨rfl, bw1⟩
          replace bw1 := below_of2 bw1
          replace h0 := h0.below bw1
          replace h1 := h1.below bw1
          replace h2 := h2.below bw1
          replace h3 := h3.below bw1
          replace hb := below_trans hb bw1
          clear bw1
          go_wp2_with fail
          refine (fit_lits _ _ [0, 1] [0, 1] _ _ _ _ true _ (by decide) (by decide) (by exact Ints.litA _ _ _ _ _ rfl (by decide)) (by exact Ints.litB _ _ _ _ _ rfl (by decide)) (by decide) rfl rfl).mono ?_
          rintro e w2 ⟨rfl, bw2⟩
          replace bw2 := below_of2 bw2
          replace h0 := h0.below bw2
          replace h1 := h1.below bw2
          replace h2 := h2.below bw2
          replace h3 := h3.below bw2
          replace hb := below_trans hb bw2
          clear bw2
          go_wp2_with fail
          refine (three_any a0 a1 a2 l0 l1 l2 c0 c1 c2 _ h0 h1 h2).mono ?_
          rintro e w' ⟨rfl, rfl⟩
          rw [T1.out, T2.out]
          go_wp2_with fail
          refine (both_any a2 a3 l2 l3 c2 c3 _ h2 h3).mono ?_
          rintro e w' ⟨rfl, rfl⟩
          rw [T3.out]
          go_wp2_with fail
          refine (fits_yes a0 a2 l0 l2 _ _ c0 c2 true _ v0 v2 E02.out S1 h0 h2 k0 rfl rfl).mono ?_
          rintro e w3 ⟨rfl, bw3⟩
          replace h0 := h0.below bw3
          replace h1 := h1.below bw3
          replace h2 := h2.below bw3
          replace h3 := h3.below bw3
          replace hb := below_trans hb bw3
          clear bw3
          go_wp2_with fail
          refine (fits_yes a0 a3 l0 l3 _ _ c0 c3 fb _ v0 v3 E03.out S2.out h0 h3 k0 rfl rfl).mono ?_
          rintro e w4 ⟨rfl, bw4⟩
          replace h0 := h0.below bw4
          replace h1 := h1.below bw4
          replace h2 := h2.below bw4
          replace h3 := h3.below bw4
          replace hb := below_trans hb bw4
          clear bw4
          go_wp2_with fail
          refine (fits_yes a1 a3 l1 l3 _ _ c1 c3 false _ v1 v3 E13.out S5 h1 h3 k1 rfl rfl).mono ?_
          rintro e w5 ⟨rfl, bw5⟩
          replace h0 := h0.below bw5
          replace h1 := h1.below bw5
          replace h2 := h2.below bw5
          replace h3 := h3.below bw5
          replace hb := below_trans hb bw5
          clear bw5
          go_wp2_with fail
          refine (pmin_at a2 a3 l2 l3 m _ _ c2 c3 _ zm h2 h3 rfl rfl).mono ?_
          rintro e w6 ⟨Am, cm, rfl, om, bw6⟩
          replace h0 := h0.below bw6
          replace h1 := h1.below bw6
          replace h2 := h2.below bw6
          replace h3 := h3.below bw6
          replace hb := below_trans hb bw6
          have hm := Ints.of_own om
          clear bw6 om
          go_wp2_with fail
          refine (fits_yes a0 Am l0 m _ _ c0 cm fb _ v0 vm EM.out S3 h0 hm k0 rfl rfl).mono ?_
          rintro e w7 ⟨rfl, bw7⟩
          replace h0 := h0.below bw7
          replace h1 := h1.below bw7
          replace h2 := h2.below bw7
          replace h3 := h3.below bw7
          replace hb := below_trans hb bw7
          clear bw7
          clear hm
          go_wp2_with fail
          refine (psum_yes a0 a1 l0 l1 x _ _ c0 c1 _ zx Bx.out h0 h1 rfl rfl).mono ?_
          rintro e w8 ⟨Ax, cx, rfl, ox, bw8⟩
          replace h0 := h0.below bw8
          replace h1 := h1.below bw8
          replace h2 := h2.below bw8
          replace h3 := h3.below bw8
          replace hb := below_trans hb bw8
          have hx := Ints.of_own ox
          clear bw8 ox
          go_wp2_with fail
          refine (psum_yes a2 a3 l2 l3 y _ _ c2 c3 _ zy SY.out h2 h3 rfl rfl).mono ?_
          rintro e w9 ⟨Ay, cy, rfl, oy, bw9⟩
          replace hx := hx.below bw9
          replace hb := below_trans hb bw9
          have hy := Ints.of_own oy
          clear bw9 oy
          go_wp2
          go_ret
          exact ⟨rfl, hb⟩
        · have S5 := Lib.hid s4
          have vx := zx.curve bx
          have vy := zy.curve sy
          have ex := zx.rlen
          have ey := zy.rlen
          have EXY : Hid (x.length = y.length) := Lib.hid (by omega)
          have S6 : Hid (fitB x y = true) := Lib.hid ((fitB_iff vx vy EXY.out).2 (fit_sums ((fitB_iff v0 v2 E02.out).1 s1) ((fitB_iff v1 v3 E13.out).1 s4) zx zy E02.out))
          have Bx := Lib.hid bx
          clear bx
          have SY := Lib.hid sy
          clear t3 e01 e12 e23 em s1 sy hfb hgb FM s4 S4 ex ey
          go_enter Try.func9, Try.ntmps9
          go_wp2_with fail
          refine (fit_lits _ _ [0, 1] [0, 0] _ _ _ _ false _ (by decide) (by decide) (by exact Ints.litA _ _ _ _ _ rfl (by decide)) (by exact Ints.litB _ _ _ _ _ rfl (by decide)) (by decide) rfl rfl).mono ?_
          rintro e w1 ⟨rfl, bw1⟩
          replace bw1 := below_of2 bw1
          replace h0 := h0.below bw1
          replace h1 := h1.below bw1
          replace h2 := h2.below bw1
          replace h3 := h3.below bw1
          replace hb := below_trans hb bw1
          clear bw1
          go_wp2_with fail
          refine (fit_lits _ _ [0, 1] [0, 1] _ _ _ _ true _ (by decide) (by decide) (by exact Ints.litA _ _ _ _ _ rfl (by decide)) (by exact Ints.litB _ _ _ _ _ rfl (by decide)) (by decide) rfl rfl).mono ?_
          rintro e w2 ⟨rfl, bw2⟩
          replace bw2 := below_of2 bw2
          replace h0 := h0.below bw2
          replace h1 := h1.below bw2
          replace h2 := h2.below bw2
          replace h3 := h3.below bw2
          replace hb := below_trans hb bw2
          clear bw2
          go_wp2_with fail
          refine (three_any a0 a1 a2 l0 l1 l2 c0 c1 c2 _ h0 h1 h2).mono ?_
          rintro e w' ⟨rfl, rfl⟩
          rw [T1.out, T2.out]
          go_wp2_with fail
          refine (both_any a2 a3 l2 l3 c2 c3 _ h2 h3).mono ?_
          rintro e w' ⟨rfl, rfl⟩
          rw [T3.out]
          go_wp2_with fail
          refine (fits_yes a0 a2 l0 l2 _ _ c0 c2 true _ v0 v2 E02.out S1 h0 h2 k0 rfl rfl).mono ?_
          rintro e w3 ⟨rfl, bw3⟩
          replace h0 := h0.below bw3
          replace h1 := h1.below bw3
          replace h2 := h2.below bw3
          replace h3 := h3.below bw3
          replace hb := below_trans hb bw3
          clear bw3
          go_wp2_with fail
          refine (fits_yes a0 a3 l0 l3 _ _ c0 c3 fb _ v0 v3 E03.out S2.out h0 h3 k0 rfl rfl).mono ?_
          rintro e w4 ⟨rfl, bw4⟩
          replace h0 := h0.below bw4
          replace h1 := h1.below bw4
          replace h2 := h2.below bw4
          replace h3 := h3.below bw4
          replace hb := below_trans hb bw4
          clear bw4
          go_wp2_with fail
          refine (fits_yes a1 a3 l1 l3 _ _ c1 c3 true _ v1 v3 E13.out S5 h1 h3 k1 rfl rfl).mono ?_
          rintro e w5 ⟨rfl, bw5⟩
          replace h0 := h0.below bw5
          replace h1 := h1.below bw5
          replace h2 := h2.below bw5
          replace h3 := h3.below bw5
          replace hb := below_trans hb bw5
          clear bw5
          go_wp2_with fail
          refine (pmin_at a2 a3 l2 l3 m _ _ c2 c3 _ zm h2 h3 rfl rfl).mono ?_
          rintro e w6 ⟨Am, cm, rfl, om, bw6⟩
          replace h0 := h0.below bw6
          replace h1 := h1.below bw6
          replace h2 := h2.below bw6
          replace h3 := h3.below bw6
          replace hb := below_trans hb bw6
          have hm := Ints.of_own om
          clear bw6 om
          go_wp2_with fail
          refine (fits_yes a0 Am l0 m _ _ c0 cm fb _ v0 vm EM.out S3 h0 hm k0 rfl rfl).mono ?_
          rintro e w7 ⟨rfl, bw7⟩
          replace h0 := h0.below bw7
          replace h1 := h1.below bw7
          replace h2 := h2.below bw7
          replace h3 := h3.below bw7
          replace hb := below_trans hb bw7
          clear bw7
          clear hm
          go_wp2_with fail
          refine (psum_yes a0 a1 l0 l1 x _ _ c0 c1 _ zx Bx.out h0 h1 rfl rfl).mono ?_
          rintro e w8 ⟨Ax, cx, rfl, ox, bw8⟩
          replace h0 := h0.below bw8
          replace h1 := h1.below bw8
          replace h2 := h2.below bw8
          replace h3 := h3.below bw8
          replace hb := below_trans hb bw8
          have hx := Ints.of_own ox
          have kx := own_cap ox
          clear bw8 ox
          go_wp2_with fail
          refine (psum_yes a2 a3 l2 l3 y _ _ c2 c3 _ zy SY.out h2 h3 rfl rfl).mono ?_
          rintro e w9 ⟨Ay, cy, rfl, oy, bw9⟩
          replace hx := hx.below bw9
          replace hb := below_trans hb bw9
          have hy := Ints.of_own oy
          clear bw9 oy
          go_wp2_with fail
          refine (fits_yes Ax Ay x y _ _ cx cy true _ vx vy EXY.out S6 hx hy kx rfl rfl).mono ?_
          rintro e w10 ⟨rfl, bw10⟩
          replace hb := below_trans hb bw10
          clear bw10
          go_wp2
          go_ret
          exact ⟨rfl, hb⟩
      · have Bx := Lib.hid bx
        clear bx
        have SY := Lib.hid sy
        clear t3 e01 e12 e23 em s1 sy hfb hgb FM
        go_enter Try.func9, Try.ntmps9
        go_wp2_with fail
        refine (fit_lits _ _ [0, 1] [0, 0] _ _ _ _ false _ (by decide) (by decide) (by exact Ints.litA _ _ _ _ _ rfl (by decide)) (by exact Ints.litB _ _ _ _ _ rfl (by decide)) (by decide) rfl rfl).mono ?_
        rintro e w1 ⟨rfl, bw1⟩
        replace bw1 := below_of2 bw1
        replace h0 := h0.below bw1
        replace h1 := h1.below bw1
        replace h2 := h2.below bw1
        replace h3 := h3.below bw1
        replace hb := below_trans hb bw1
        clear bw1
        go_wp2_with fail
        refine (fit_lits _ _ [0, 1] [0, 1] _ _ _ _ true _ (by decide) (by decide) (by exact Ints.litA _ _ _ _ _ rfl (by decide)) (by exact Ints.litB _ _ _ _ _ rfl (by decide)) (by decide) rfl rfl).mono ?_
        rintro e w2 ⟨rfl, bw2⟩
        replace bw2 := below_of2 bw2
        replace h0 := h0.below bw2
        replace h1 := h1.below bw2
        replace h2 := h2.below bw2
        replace h3 := h3.below bw2
        replace hb := below_trans hb bw2
        clear bw2
        go_wp2_with fail
        refine (three_any a0 a1 a2 l0 l1 l2 c0 c1 c2 _ h0 h1 h2).mono ?_
        rintro e w' ⟨rfl, rfl⟩
        rw [T1.out, T2.out]
        go_wp2_with fail
        refine (both_any a2 a3 l2 l3 c2 c3 _ h2 h3).mono ?_
        rintro e w' ⟨rfl, rfl⟩
        rw [T3.out]
        go_wp2_with fail
        refine (fits_yes a0 a2 l0 l2 _ _ c0 c2 true _ v0 v2 E02.out S1 h0 h2 k0 rfl rfl).mono ?_
        rintro e w3 ⟨rfl, bw3⟩
        replace h0 := h0.below bw3
        replace h1 := h1.below bw3
        replace h2 := h2.below bw3
        replace h3 := h3.below bw3
        replace hb := below_trans hb bw3
        clear bw3
        go_wp2_with fail
        refine (fits_yes a0 a3 l0 l3 _ _ c0 c3 fb _ v0 v3 E03.out S2.out h0 h3 k0 rfl rfl).mono ?_
        rintro e w4 ⟨rfl, bw4⟩
        replace h0 := h0.below bw4
        replace h1 := h1.below bw4
        replace h2 := h2.below bw4
        replace h3 := h3.below bw4
        replace hb := below_trans hb bw4
        clear bw4
        go_wp2_with fail
        refine (fits_yes a1 a3 l1 l3 _ _ c1 c3 gb _ v1 v3 E13.out S4.out h1 h3 k1 rfl rfl).mono ?_
        rintro e w5 ⟨rfl, bw5⟩
        replace h0 := h0.below bw5
        replace h1 := h1.below bw5
        replace h2 := h2.below bw5
        replace h3 := h3.below bw5
        replace hb := below_trans hb bw5
        clear bw5
        go_wp2_with fail
        refine (pmin_at a2 a3 l2 l3 m _ _ c2 c3 _ zm h2 h3 rfl rfl).mono ?_
        rintro e w6 ⟨Am, cm, rfl, om, bw6⟩
        replace h0 := h0.below bw6
        replace h1 := h1.below bw6
        replace h2 := h2.below bw6
        replace h3 := h3.below bw6
        replace hb := below_trans hb bw6
        have hm := Ints.of_own om
        clear bw6 om
        go_wp2_with fail
        refine (fits_yes a0 Am l0 m _ _ c0 cm fb _ v0 vm EM.out S3 h0 hm k0 rfl rfl).mono ?_
        rintro e w7 ⟨rfl, bw7⟩
        replace h0 := h0.below bw7
        replace h1 := h1.below bw7
        replace h2 := h2.below bw7
        replace h3 := h3.below bw7
        replace hb := below_trans hb bw7
        clear bw7
        clear hm
        go_wp2_with fail
        refine (psum_yes a0 a1 l0 l1 x _ _ c0 c1 _ zx Bx.out h0 h1 rfl rfl).mono ?_
        rintro e w8 ⟨Ax, cx, rfl, ox, bw8⟩
        replace h0 := h0.below bw8
        replace h1 := h1.below bw8
        replace h2 := h2.below bw8
        replace h3 := h3.below bw8
        replace hb := below_trans hb bw8
        have hx := Ints.of_own ox
        clear bw8 ox
        go_wp2_with fail
        refine (psum_no a2 a3 l2 l3 y _ _ c2 c3 _ zy SY.out h2 h3 rfl rfl).mono ?_
        rintro e w9 ⟨Ay, cy, rfl, oy, bw9⟩
        replace hx := hx.below bw9
        replace hb := below_trans hb bw9
        have hy := Ints.of_own oy
        clear bw9 oy
        go_wp2
        go_ret
        exact ⟨rfl, hb⟩
    · have Bx := Lib.hid bx
      clear bx
      clear t3 e01 e12 e23 em s1 hfb hgb FM
      go_enter Try.func9, Try.ntmps9
      go_wp2_with fail
      refine (fit_lits _ _ [0, 1] [0, 0] _ _ _ _ false _ (by decide) (by decide) (by exact Ints.litA _ _ _ _ _ rfl (by decide)) (by exact Ints.litB _ _ _ _ _ rfl (by decide)) (by decide) rfl rfl).mono ?_
      rintro e w1 ⟨rfl, bw1⟩
      replace bw1 := below_of2 bw1
      replace h0 := h0.below bw1
      replace h1 := h1.below bw1
      replace h2 := h2.below bw1
      replace h3 := h3.below bw1
      replace hb := below_trans hb bw1
      clear bw1
      go_wp2_with fail
      refine (fit_lits _ _ [0, 1] [0, 1] _ _ _ _ true _ (by decide) (by decide) (by exact Ints.litA _ _ _ _ _ rfl (by decide)) (by exact Ints.litB _ _ _ _ _ rfl (by decide)) (by decide) rfl rfl).mono ?_
      rintro e w2 ⟨rfl, bw2⟩
      replace bw2 := below_of2 bw2
      replace h0 := h0.below bw2
      replace h1 := h1.below bw2
      replace h2 := h2.below bw2
      replace h3 := h3.below bw2
      replace hb := below_trans hb bw2
      clear bw2
      go_wp2_with fail
      refine (three_any a0 a1 a2 l0 l1 l2 c0 c1 c2 _ h0 h1 h2).mono ?_
      rintro e w' ⟨rfl, rfl⟩
      rw [T1.out, T2.out]
      go_wp2_with fail
      refine (both_any a2 a3 l2 l3 c2 c3 _ h2 h3).mono ?_
      rintro e w' ⟨rfl, rfl⟩
      rw [T3.out]
      go_wp2_with fail
      refine (fits_yes a0 a2 l0 l2 _ _ c0 c2 true _ v0 v2 E02.out S1 h0 h2 k0 rfl rfl).mono ?_
      rintro e w3 ⟨rfl, bw3⟩
      replace h0 := h0.below bw3
      replace h1 := h1.below bw3
      replace h2 := h2.below bw3
      replace h3 := h3.below bw3
      replace hb := below_trans hb bw3
      clear bw3
      go_wp2_with fail
      refine (fits_yes a0 a3 l0 l3 _ _ c0 c3 fb _ v0 v3 E03.out S2.out h0 h3 k0 rfl rfl).mono ?_
      rintro e w4 ⟨rfl, bw4⟩
      replace h0 := h0.below bw4
      replace h1 := h1.below bw4
      replace h2 := h2.below bw4
      replace h3 := h3.below bw4
      replace hb := below_trans hb bw4
      clear bw4
      go_wp2_with fail
      refine (fits_yes a1 a3 l1 l3 _ _ c1 c3 gb _ v1 v3 E13.out S4.out h1 h3 k1 rfl rfl).mono ?_
      rintro e w5 ⟨rfl, bw5⟩
      replace h0 := h0.below bw5
      replace h1 := h1.below bw5
      replace h2 := h2.below bw5
      replace h3 := h3.below bw5
      replace hb := below_trans hb bw5
      clear bw5
      go_wp2_with fail
      refine (pmin_at a2 a3 l2 l3 m _ _ c2 c3 _ zm h2 h3 rfl rfl).mono ?_
      rintro e w6 ⟨Am, cm, rfl, om, bw6⟩
      replace h0 := h0.below bw6
      replace h1 := h1.below bw6
      replace h2 := h2.below bw6
      replace h3 := h3.below bw6
      replace hb := below_trans hb bw6
      have hm := Ints.of_own om
      clear bw6 om
      go_wp2_with fail
      refine (fits_yes a0 Am l0 m _ _ c0 cm fb _ v0 vm EM.out S3 h0 hm k0 rfl rfl).mono ?_
      rintro e w7 ⟨rfl, bw7⟩
      replace h0 := h0.below bw7
      replace h1 := h1.below bw7
      replace h2 := h2.below bw7
      replace h3 := h3.below bw7
      replace hb := below_trans hb bw7
      clear bw7
      clear hm
      go_wp2_with fail
      refine (psum_no a0 a1 l0 l1 x _ _ c0 c1 _ zx Bx.out h0 h1 rfl rfl).mono ?_
      rintro e w8 ⟨Ax, cx, rfl, ox, bw8⟩
      replace h0 := h0.below bw8
      replace h1 := h1.below bw8
      replace h2 := h2.below bw8
      replace h3 := h3.below bw8
      replace hb := below_trans hb bw8
      have hx := Ints.of_own ox
      clear bw8 ox
      go_wp2_with fail
      refine (sum_ok a2 a3 l2 l3 y _ _ c2 c3 _ zy h2 h3 rfl rfl).mono ?_
      rintro e w9 ⟨Ay, cy, rfl, oy, bw9⟩
      replace hx := hx.below bw9
      replace hb := below_trans hb bw9
      have hy := Ints.of_own oy
      clear bw9 oy
      go_wp2
      go_ret
      exact ⟨rfl, hb⟩

end Go.Proofs.Ytaopeofcmnckfaa
