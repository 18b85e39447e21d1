
/-
  The walk of the law DeconvGalois.
-/
import Derived.Test.YtgjdckodalmjcaaConvK
namespace Go.Proofs.Ytgjdckodalmjcaa
set_option linter.all false
open Go.RowKit Go.Shelf


theorem dec_lit1 : Decs [0, 4, 8] [0, 1, 8] [3, 7, 8] := ⟨cv_of (by decide), cv_of (by decide), rfl, by decide⟩

theorem dec_galois {f g h x y : List Int} (z : Decs f g x) (s : Convs h g y) (hb : bigB y = false) : leK x h = leK f y := by
  have e1 := z.len; have e2 := z.rlen; have e3 := s.len; have e4 := s.rlen
  apply bool_eq
  rw [leK_iff z.r s.one (by omega), leK_iff z.one (s.curve hb) (by omega)]
  constructor
  · intro H t ht
    obtain ⟨i, j, ij, ey⟩ := s.at_ (t := t) (by omega)
    have h1 := H i (by omega)
    have h2 := z.ge i j (by omega)
    rw [ij] at h2
    omega
  · intro H t ht
    refine (z.iff (by omega) (s.one.lo t (by omega))).2 (fun j hj => ?_)
    have h1 := H (t + j) hj
    have h2 := s.le t j (by omega)
    omega

set_option maxHeartbeats 3200000 in
theorem walk_DeconvGalois (a0 : Option Addr) (c0 : Nat) (l0 : List Int) (a1 : Option Addr) (c1 : Nat) (l1 : List Int) (a2 : Option Addr) (c2 : Nat) (l2 : List Int) (w : World)
    (h0 : Ints w a0 l0) (k0 : l0.length ≤ c0) (h1 : Ints w a1 l1) (k1 : l1.length ≤ c1) (h2 : Ints w a2 l2) (k2 : l2.length ≤ c2) :
    Calls Try.prog 11 #[.slice a0 l0.length c0, .slice a1 l1.length c1, .slice a2 l2.length c2] w fun e w' => e = .returned (.bool true) ∧ Below w.heap.size w w' := by
  have hb : Below w.heap.size w w := Below.refl _ _
  cases t1 : okB l0 l1
  · have T1 := Lib.hid t1
    clear t1
    go_enter Try.func11, Try.ntmps11
    go_wp2_with fail
    refine (dec_ok _ _ [0, 4, 8] [0, 1, 8] [3, 7, 8] _ _ _ _ _ dec_lit1 (by exact Ints.litA _ _ _ _ _ rfl (by decide)) (by exact Ints.litB _ _ _ _ _ rfl (by decide)) (by decide) rfl rfl).mono ?_
    rintro e w1 ⟨Ax, cx, rfl, ox, bw1⟩
    replace bw1 := below_of2 bw1
    replace h0 := h0.below bw1
    replace h1 := h1.below bw1
    replace h2 := h2.below bw1
    replace hb := below_trans hb bw1
    have hx := Ints.of_own ox
    clear bw1 ox
    go_wp2_with fail
    refine (equal_at Ax _ [3, 7, 8] [3, 7, 8] _ _ _ _ _ (by exact Ints.alloc hx _) (by exact Ints.lit _ _ _ _ rfl (by decide)) rfl rfl).mono ?_
    rintro e w2 ⟨rfl, nw2, hww2⟩
    have bw2 := below_of_drewN hww2
    clear hww2
    replace bw2 := below_of1 bw2
    replace h0 := h0.below bw2
    replace h1 := h1.below bw2
    replace h2 := h2.below bw2
    replace hb := below_trans hb bw2
    clear bw2
    rw [eqB_true rfl]
    clear hx
    go_wp2_with fail
    refine (three_any a0 a1 a2 l0 l1 l2 c0 c1 c2 _ h0 h1 h2).mono ?_
    rintro e w' ⟨rfl, rfl⟩
    rw [T1.out]
    go_wp2
    go_ret
    exact ⟨rfl, hb⟩
  cases t2 : okB l1 l2
  · have T1 := Lib.hid t1
    have T2 := Lib.hid t2
    clear t1 t2
    go_enter Try.func11, Try.ntmps11
    go_wp2_with fail
    refine (dec_ok _ _ [0, 4, 8] [0, 1, 8] [3, 7, 8] _ _ _ _ _ dec_lit1 (by exact Ints.litA _ _ _ _ _ rfl (by decide)) (by exact Ints.litB _ _ _ _ _ rfl (by decide)) (by decide) rfl rfl).mono ?_
    rintro e w1 ⟨Ax, cx, rfl, ox, bw1⟩
    replace bw1 := below_of2 bw1
    replace h0 := h0.below bw1
    replace h1 := h1.below bw1
    replace h2 := h2.below bw1
    replace hb := below_trans hb bw1
    have hx := Ints.of_own ox
    clear bw1 ox
    go_wp2_with fail
    refine (equal_at Ax _ [3, 7, 8] [3, 7, 8] _ _ _ _ _ (by exact Ints.alloc hx _) (by exact Ints.lit _ _ _ _ rfl (by decide)) rfl rfl).mono ?_
    rintro e w2 ⟨rfl, nw2, hww2⟩
    have bw2 := below_of_drewN hww2
    clear hww2
    replace bw2 := below_of1 bw2
    replace h0 := h0.below bw2
    replace h1 := h1.below bw2
    replace h2 := h2.below bw2
    replace hb := below_trans hb bw2
    clear bw2
    rw [eqB_true rfl]
    clear hx
    go_wp2_with fail
    refine (three_any a0 a1 a2 l0 l1 l2 c0 c1 c2 _ h0 h1 h2).mono ?_
    rintro e w' ⟨rfl, rfl⟩
    rw [T1.out, T2.out]
    go_wp2
    go_ret
    exact ⟨rfl, hb⟩
  obtain ⟨v0, v1, e01⟩ := chk2_iff.1 (chk2_of_okB t1)
  obtain ⟨_, v2, e12⟩ := chk2_iff.1 (chk2_of_okB t2)
  have T1 := Lib.hid t1
  have T2 := Lib.hid t2
  clear t1 t2
  obtain ⟨x, zx⟩ := ex_dec v0 v1 e01
  obtain ⟨y, zy⟩ := ex_conv v2 v1 e12.symm
  clear e01 e12
  cases bY : bigB y
  · have Q := Lib.hid (dec_galois zx zy bY)
    have BY := Lib.hid bY
    clear bY
    have eb : (leK l0 y == leK l0 y) = true := by simp
    go_enter Try.func11, Try.ntmps11
    go_wp2_with fail
    refine (dec_ok _ _ [0, 4, 8] [0, 1, 8] [3, 7, 8] _ _ _ _ _ dec_lit1 (by exact Ints.litA _ _ _ _ _ rfl (by decide)) (by exact Ints.litB _ _ _ _ _ rfl (by decide)) (by decide) rfl rfl).mono ?_
    rintro e w1 ⟨Ax, cx, rfl, ox, bw1⟩
    replace bw1 := below_of2 bw1
    replace h0 := h0.below bw1
    replace h1 := h1.below bw1
    replace h2 := h2.below bw1
    replace hb := below_trans hb bw1
    have hx := Ints.of_own ox
    clear bw1 ox
    go_wp2_with fail
    refine (equal_at Ax _ [3, 7, 8] [3, 7, 8] _ _ _ _ _ (by exact Ints.alloc hx _) (by exact Ints.lit _ _ _ _ rfl (by decide)) rfl rfl).mono ?_
    rintro e w2 ⟨rfl, nw2, hww2⟩
    have bw2 := below_of_drewN hww2
    clear hww2
    replace bw2 := below_of1 bw2
    replace h0 := h0.below bw2
    replace h1 := h1.below bw2
    replace h2 := h2.below bw2
    replace hb := below_trans hb bw2
    clear bw2
    rw [eqB_true rfl]
    clear hx
    go_wp2_with fail
    refine (three_any a0 a1 a2 l0 l1 l2 c0 c1 c2 _ h0 h1 h2).mono ?_
    rintro e w' ⟨rfl, rfl⟩
    rw [T1.out, T2.out]
    go_wp2_with fail
    refine (dec_ok a0 a1 l0 l1 x _ _ c0 c1 _ zx h0 h1 k0 rfl rfl).mono ?_
    rintro e w3 ⟨Ax, cx, rfl, ox, bw3⟩
    replace h0 := h0.below bw3
    replace h1 := h1.below bw3
    replace h2 := h2.below bw3
    replace hb := below_trans hb bw3
    have hx := Ints.of_own ox
    clear bw3 ox
    go_wp2_with fail
    refine (conv_yes a2 a1 l2 l1 y _ _ c2 c1 _ zy BY.out h2 h1 rfl rfl).mono ?_
    rintro e w4 ⟨Ay, cy, rfl, oy, bw4⟩
    replace h0 := h0.below bw4
    replace h2 := h2.below bw4
    replace hx := hx.below bw4
    replace hb := below_trans hb bw4
    have hy := Ints.of_own oy
    clear bw4 oy
    go_wp2_with fail
    refine (kle_any Ax a2 x l2 cx c2 _ hx h2).mono ?_
    rintro e w5 ⟨rfl, nw5, hww5⟩
    have bw5 := below_of_drewN hww5
    clear hww5
    replace h0 := h0.below bw5
    replace hy := hy.below bw5
    replace hb := below_trans hb bw5
    clear bw5
    rw [Q.out]
    go_wp2_with fail
    refine (kle_any a0 Ay l0 y c0 cy _ h0 hy).mono ?_
    rintro e w6 ⟨rfl, nw6, hww6⟩
    have bw6 := below_of_drewN hww6
    clear hww6
    replace hb := below_trans hb bw6
    clear bw6
    go_wp2
    go_ret
    exact ⟨rfl, hb⟩
  · have BY := Lib.hid bY
    clear bY
    go_enter Try.func11, Try.ntmps11
    go_wp2_with fail
    refine (dec_ok _ _ [0, 4, 8] [0, 1, 8] [3, 7, 8] _ _ _ _ _ dec_lit1 (by exact Ints.litA _ _ _ _ _ rfl (by decide)) (by exact Ints.litB _ _ _ _ _ rfl (by decide)) (by decide) rfl rfl).mono ?_
    rintro e w1 ⟨Ax, cx, rfl, ox, bw1⟩
    replace bw1 := below_of2 bw1
    replace h0 := h0.below bw1
    replace h1 := h1.below bw1
    replace h2 := h2.below bw1
    replace hb := below_trans hb bw1
    have hx := Ints.of_own ox
    clear bw1 ox
    go_wp2_with fail
    refine (equal_at Ax _ [3, 7, 8] [3, 7, 8] _ _ _ _ _ (by exact Ints.alloc hx _) (by exact Ints.lit _ _ _ _ rfl (by decide)) rfl rfl).mono ?_
    rintro e w2 ⟨rfl, nw2, hww2⟩
    have bw2 := below_of_drewN hww2
    clear hww2
    replace bw2 := below_of1 bw2
    replace h0 := h0.below bw2
    replace h1 := h1.below bw2
    replace h2 := h2.below bw2
    replace hb := below_trans hb bw2
    clear bw2
    rw [eqB_true rfl]
    clear hx
    go_wp2_with fail
    refine (three_any a0 a1 a2 l0 l1 l2 c0 c1 c2 _ h0 h1 h2).mono ?_
    rintro e w' ⟨rfl, rfl⟩
    rw [T1.out, T2.out]
    go_wp2_with fail
    refine (dec_ok a0 a1 l0 l1 x _ _ c0 c1 _ zx h0 h1 k0 rfl rfl).mono ?_
    rintro e w3 ⟨Ax, cx, rfl, ox, bw3⟩
    replace h0 := h0.below bw3
    replace h1 := h1.below bw3
    replace h2 := h2.below bw3
    replace hb := below_trans hb bw3
    have hx := Ints.of_own ox
    clear bw3 ox
    go_wp2_with fail
    refine (conv_no a2 a1 l2 l1 y _ _ c2 c1 _ zy BY.out h2 h1 rfl rfl).mono ?_
    rintro e w4 ⟨Ay, cy, rfl, oy, bw4⟩
    replace h0 := h0.below bw4
    replace h2 := h2.below bw4
    replace hx := hx.below bw4
    replace hb := below_trans hb bw4
    have hy := Ints.of_own oy
    clear bw4 oy
    go_wp2
    go_ret
    exact ⟨rfl, hb⟩

end Go.Proofs.Ytgjdckodalmjcaa
