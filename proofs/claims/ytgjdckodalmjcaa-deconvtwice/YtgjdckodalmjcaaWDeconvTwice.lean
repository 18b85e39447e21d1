
/-
  The walk of the law DeconvTwice.
-/
import Derived.Test.YtgjdckodalmjcaaConvK
namespace Go.Proofs.Ytgjdckodalmjcaa
set_option linter.all false
open Go.RowKit Go.Shelf


theorem dec_lit3 : Decs [0, 4] [0, 3] [1, 4] := ⟨cv_of (by decide), cv_of (by decide), rfl, by decide⟩

theorem le_anti {x y : Int} (hx : 0 ≤ x) (hy : 0 ≤ y) (h : ∀ B, 0 ≤ B → (x ≤ B ↔ y ≤ B)) : x = y := by
  have a := (h y hy).2 (Int.le_refl _); have b := (h x hx).1 (Int.le_refl _); omega

theorem dec_twice {f g h a x b : List Int} (za : Decs f g a) (zx : Decs a h x) (zb : Convs g h b) (vb : Cv b) : Decs f b x := by
  have e1 := za.len; have e2 := za.rlen; have e3 := zb.len; have e4 := zb.rlen; have e5 := zx.len; have e6 := zx.rlen
  obtain ⟨y, zy⟩ := ex_dec za.one vb (by omega)
  have e7 := zy.rlen
  refine ⟨za.one, vb, by omega, ?_⟩
  rw [← zy.is]
  refine list_ext (by omega) (fun t ht => le_anti (zx.r.lo t ht) (zy.r.lo t (by omega)) (fun B hB => ?_))
  rw [zx.iff (by omega) hB, zy.iff (by omega) hB]
  constructor
  · intro H u hu
    obtain ⟨i, j, ij, eb⟩ := zb.at_ (t := u) (by omega)
    have h1 := H j (by omega)
    have h2 := za.ge (t + j) i (by omega)
    rw [show t + j + i = t + u by omega] at h2
    omega
  · intro H j hj
    have hp := zb.two.lo j (by omega)
    have : gt a (t + j) ≤ B + gt h j := by
      refine (za.iff (by omega) (by omega)).2 (fun k hk => ?_)
      have h1 := H (k + j) (by omega)
      have h2 := zb.le k j (by omega)
      rw [show t + (k + j) = t + j + k by omega] at h1
      omega
    omega

set_option maxHeartbeats 3200000 in
theorem walk_DeconvTwice (a0 : Option Addr) (c0 : Nat) (l0 : List Int) (a1 : Option Addr) (c1 : Nat) (l1 : List Int) (a2 : Option Addr) (c2 : Nat) (l2 : List Int) (w : World)
    (h0 : Ints w a0 l0) (k0 : l0.length ≤ c0) (h1 : Ints w a1 l1) (k1 : l1.length ≤ c1) (h2 : Ints w a2 l2) (k2 : l2.length ≤ c2) :
    Calls Try.prog 12 #[.slice a0 l0.length c0, .slice a1 l1.length c1, .slice a2 l2.length c2] w fun e w' => e = .returned (.bool true) ∧ Below w.heap.size w w' := by
  have hb : Below w.heap.size w w := Below.refl _ _
  cases t1 : okB l0 l1
  · have T1 := Lib.hid t1
    clear t1
    go_enter Try.func12, Try.ntmps12
    go_wp2_with fail
    refine (dec_ok _ _ [0, 4] [0, 3] [1, 4] _ _ _ _ _ dec_lit3 (by exact Ints.litA _ _ _ _ _ rfl (by decide)) (by exact Ints.litB _ _ _ _ _ rfl (by decide)) (by decide) rfl rfl).mono ?_
    rintro e w1 ⟨Ax, cx, rfl, ox, bw1⟩
    replace bw1 := below_of2 bw1
    replace h0 := h0.below bw1
    replace h1 := h1.below bw1
    replace h2 := h2.below bw1
    replace hb := below_trans hb bw1
    have hx := Ints.of_own ox
    clear bw1 ox
    go_wp2_with fail
    refine (equal_at Ax _ [1, 4] [1, 4] _ _ _ _ _ (by exact Ints.alloc hx _) (by exact Ints.lit _ _ _ _ rfl (by decide)) rfl rfl).mono ?_
    rintro e w2 ⟨rfl, nw2, hww2⟩
    have bw2 := below_of_drewN hww2
    clear hww2
    replace bw2 := below_of1 bw2
    replace h0 := h0.below bw2
    replace h1 := h1.below bw2
    replace h2 := h2.below bw2
    replace hb := below_trans hb bw2
    clear bw2
    rw [eqB_true rfl]
    clear hx
    go_wp2_with fail
    refine (three_any a0 a1 a2 l0 l1 l2 c0 c1 c2 _ h0 h1 h2).mono ?_
    rintro e w' ⟨rfl, rfl⟩
    rw [T1.out]
    go_wp2
    go_ret
    exact ⟨rfl, hb⟩
  cases t2 : okB l1 l2
  · have T1 := Lib.hid t1
    have T2 := Lib.hid t2
    clear t1 t2
    go_enter Try.func12, Try.ntmps12
    go_wp2_with fail
    refine (dec_ok _ _ [0, 4] [0, 3] [1, 4] _ _ _ _ _ dec_lit3 (by exact Ints.litA _ _ _ _ _ rfl (by decide)) (by exact Ints.litB _ _ _ _ _ rfl (by decide)) (by decide) rfl rfl).mono ?_
    rintro e w1 ⟨Ax, cx, rfl, ox, bw1⟩
    replace bw1 := below_of2 bw1
    replace h0 := h0.below bw1
    replace h1 := h1.below bw1
    replace h2 := h2.below bw1
    replace hb := below_trans hb bw1
    have hx := Ints.of_own ox
    clear bw1 ox
    go_wp2_with fail
    refine (equal_at Ax _ [1, 4] [1, 4] _ _ _ _ _ (by exact Ints.alloc hx _) (by exact Ints.lit _ _ _ _ rfl (by decide)) rfl rfl).mono ?_
    rintro e w2 ⟨rfl, nw2, hww2⟩
    have bw2 := below_of_drewN hww2
    clear hww2
    replace bw2 := below_of1 bw2
    replace h0 := h0.below bw2
    replace h1 := h1.below bw2
    replace h2 := h2.below bw2
    replace hb := below_trans hb bw2
    clear bw2
    rw [eqB_true rfl]
    clear hx
    go_wp2_with fail
    refine (three_any a0 a1 a2 l0 l1 l2 c0 c1 c2 _ h0 h1 h2).mono ?_
    rintro e w' ⟨rfl, rfl⟩
    rw [T1.out, T2.out]
    go_wp2
    go_ret
    exact ⟨rfl, hb⟩
  obtain ⟨v0, v1, e01⟩ := chk2_iff.1 (chk2_of_okB t1)
  obtain ⟨_, v2, e12⟩ := chk2_iff.1 (chk2_of_okB t2)
  have T1 := Lib.hid t1
  have T2 := Lib.hid t2
  clear t1 t2
  obtain ⟨a, za⟩ := ex_dec v0 v1 e01
  have ea := za.rlen
  obtain ⟨x, zx⟩ := ex_dec za.r v2 (by omega)
  obtain ⟨b, zb⟩ := ex_conv v1 v2 e12
  clear e01 e12 ea
  cases bB : bigB b
  · have zy := dec_twice za zx zb (zb.curve bB)
    have BB := Lib.hid bB
    clear bB
    go_enter Try.func12, Try.ntmps12
    go_wp2_with fail
    refine (dec_ok _ _ [0, 4] [0, 3] [1, 4] _ _ _ _ _ dec_lit3 (by exact Ints.litA _ _ _ _ _ rfl (by decide)) (by exact Ints.litB _ _ _ _ _ rfl (by decide)) (by decide) rfl rfl).mono ?_
    rintro e w1 ⟨Ax, cx, rfl, ox, bw1⟩
    replace bw1 := below_of2 bw1
    replace h0 := h0.below bw1
    replace h1 := h1.below bw1
    replace h2 := h2.below bw1
    replace hb := below_trans hb bw1
    have hx := Ints.of_own ox
    clear bw1 ox
    go_wp2_with fail
    refine (equal_at Ax _ [1, 4] [1, 4] _ _ _ _ _ (by exact Ints.alloc hx _) (by exact Ints.lit _ _ _ _ rfl (by decide)) rfl rfl).mono ?_
    rintro e w2 ⟨rfl, nw2, hww2⟩
    have bw2 := below_of_drewN hww2
    clear hww2
    replace bw2 := below_of1 bw2
    replace h0 := h0.below bw2
    replace h1 := h1.below bw2
    replace h2 := h2.below bw2
    replace hb := below_trans hb bw2
    clear bw2
    rw [eqB_true rfl]
    clear hx
    go_wp2_with fail
    refine (three_any a0 a1 a2 l0 l1 l2 c0 c1 c2 _ h0 h1 h2).mono ?_
    rintro e w' ⟨rfl, rfl⟩
    rw [T1.out, T2.out]
    go_wp2_with fail
    refine (dec_ok a0 a1 l0 l1 a _ _ c0 c1 _ za h0 h1 k0 rfl rfl).mono ?_
    rintro e w3 ⟨Aa, ca, rfl, oa, bw3⟩
    replace h0 := h0.below bw3
    replace h1 := h1.below bw3
    replace h2 := h2.below bw3
    replace hb := below_trans hb bw3
    have ha := Ints.of_own oa
    have ka := own_cap oa
    clear bw3 oa
    go_wp2_with fail
    refine (dec_ok Aa a2 a l2 x _ _ ca c2 _ zx ha h2 ka rfl rfl).mono ?_
    rintro e w4 ⟨Ax, cx, rfl, ox, bw4⟩
    replace h0 := h0.below bw4
    replace h1 := h1.below bw4
    replace h2 := h2.below bw4
    replace hb := below_trans hb bw4
    have hx := Ints.of_own ox
    clear bw4 ox
    go_wp2_with fail
    refine (conv_yes a1 a2 l1 l2 b _ _ c1 c2 _ zb BB.out h1 h2 rfl rfl).mono ?_
    rintro e w5 ⟨Ap, cp, rfl, op, bw5⟩
    replace h0 := h0.below bw5
    replace hx := hx.below bw5
    replace hb := below_trans hb bw5
    have hp := Ints.of_own op
    clear bw5 op
    go_wp2_with fail
    refine (dec_ok a0 Ap l0 b x _ _ c0 cp _ zy h0 hp k0 rfl rfl).mono ?_
    rintro e w6 ⟨Ay, cy, rfl, oy, bw6⟩
    replace hx := hx.below bw6
    replace hb := below_trans hb bw6
    have hy := Ints.of_own oy
    clear bw6 oy
    go_wp2_with fail
    refine (equal_any Ax Ay x x cx cy _ hx hy).mono ?_
    rintro e w7 ⟨rfl, nw7, hww7⟩
    have bw7 := below_of_drewN hww7
    clear hww7
    replace hb := below_trans hb bw7
    clear bw7
    rw [eqB_true rfl]
    go_wp2
    go_ret
    exact ⟨rfl, hb⟩
  · have BB := Lib.hid bB
    clear bB
    go_enter Try.func12, Try.ntmps12
    go_wp2_with fail
    refine (dec_ok _ _ [0, 4] [0, 3] [1, 4] _ _ _ _ _ dec_lit3 (by exact Ints.litA _ _ _ _ _ rfl (by decide)) (by exact Ints.litB _ _ _ _ _ rfl (by decide)) (by decide) rfl rfl).mono ?_
    rintro e w1 ⟨Ax, cx, rfl, ox, bw1⟩
    replace bw1 := below_of2 bw1
    replace h0 := h0.below bw1
    replace h1 := h1.below bw1
    replace h2 := h2.below bw1
    replace hb := below_trans hb bw1
    have hx := Ints.of_own ox
    clear bw1 ox
    go_wp2_with fail
    refine (equal_at Ax _ [1, 4] [1, 4] _ _ _ _ _ (by exact Ints.alloc hx _) (by exact Ints.lit _ _ _ _ rfl (by decide)) rfl rfl).mono ?_
    rintro e w2 ⟨rfl, nw2, hww2⟩
    have bw2 := below_of_drewN hww2
    clear hww2
    replace bw2 := below_of1 bw2
    replace h0 := h0.below bw2
    replace h1 := h1.below bw2
    replace h2 := h2.below bw2
    replace hb := below_trans hb bw2
    clear bw2
    rw [eqB_true rfl]
    clear hx
    go_wp2_with fail
    refine (three_any a0 a1 a2 l0 l1 l2 c0 c1 c2 _ h0 h1 h2).mono ?_
    rintro e w' ⟨rfl, rfl⟩
    rw [T1.out, T2.out]
    go_wp2_with fail
    refine (dec_ok a0 a1 l0 l1 a _ _ c0 c1 _ za h0 h1 k0 rfl rfl).mono ?_
    rintro e w3 ⟨Aa, ca, rfl, oa, bw3⟩
    replace h0 := h0.below bw3
    replace h1 := h1.below bw3
    replace h2 := h2.below bw3
    replace hb := below_trans hb bw3
    have ha := Ints.of_own oa
    have ka := own_cap oa
    clear bw3 oa
    go_wp2_with fail
    refine (dec_ok Aa a2 a l2 x _ _ ca c2 _ zx ha h2 ka rfl rfl).mono ?_
    rintro e w4 ⟨Ax, cx, rfl, ox, bw4⟩
    replace h0 := h0.below bw4
    replace h1 := h1.below bw4
    replace h2 := h2.below bw4
    replace hb := below_trans hb bw4
    have hx := Ints.of_own ox
    clear bw4 ox
    go_wp2_with fail
    refine (conv_no a1 a2 l1 l2 b _ _ c1 c2 _ zb BB.out h1 h2 rfl rfl).mono ?_
    rintro e w5 ⟨Ap, cp, rfl, op, bw5⟩
    replace h0 := h0.below bw5
    replace hx := hx.below bw5
    replace hb := below_trans hb bw5
    have hp := Ints.of_own op
    clear bw5 op
    go_wp2
    go_ret
    exact ⟨rfl, hb⟩

end Go.Proofs.Ytgjdckodalmjcaa
