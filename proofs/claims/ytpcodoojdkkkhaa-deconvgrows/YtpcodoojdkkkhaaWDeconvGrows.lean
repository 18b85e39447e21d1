
/-
  The walk of the law DeconvGrows.
-/
import Derived.Test.YtpcodoojdkkkhaaConvK
namespace Go.Proofs.Ytpcodoojdkkkhaa
set_option linter.all false
open Go.RowKit Go.Shelf


theorem dec_lit2 : Decs [0, 4] [0, 0] [4, 4] := ⟨cv_of (by decide), cv_of (by decide), rfl, by decide⟩

theorem dec_mono {f g h a b : List Int} (za : Decs f h a) (zb : Decs g h b) (l : leK f g = true) : leK a b = true := by
  have e1 := za.len; have e2 := za.rlen; have e3 := zb.len; have e4 := zb.rlen
  rw [leK_iff za.one zb.one (by omega)] at l
  rw [leK_iff za.r zb.r (by omega)]
  intro t ht
  refine (za.iff (by omega) (zb.r.lo t (by omega))).2 (fun j hj => ?_)
  have := zb.ge t j (by omega); have := l (t + j) hj; omega
theorem dec_anti {f g h c d : List Int} (zc : Decs h f c) (zd : Decs h g d) (l : leK f g = true) : leK d c = true := by
  have e1 := zc.len; have e2 := zc.rlen; have e3 := zd.len; have e4 := zd.rlen
  rw [leK_iff zc.two zd.two (by omega)] at l
  rw [leK_iff zd.r zc.r (by omega)]
  intro t ht
  refine (zd.iff (by omega) (zc.r.lo t (by omega))).2 (fun j hj => ?_)
  have := zc.ge t j hj; have := l j (by omega); omega

set_option maxHeartbeats 3200000 in
theorem walk_DeconvGrows (a0 : Option Addr) (c0 : Nat) (l0 : List Int) (a1 : Option Addr) (c1 : Nat) (l1 : List Int) (a2 : Option Addr) (c2 : Nat) (l2 : List Int) (w : World)
    (h0 : Ints w a0 l0) (k0 : l0.length ≤ c0) (h1 : Ints w a1 l1) (k1 : l1.length ≤ c1) (h2 : Ints w a2 l2) (k2 : l2.length ≤ c2) :
    Calls Try.prog 13 #[.slice a0 l0.length c0, .slice a1 l1.length c1, .slice a2 l2.length c2] w fun e w' => e = .returned (.bool true) ∧ Below w.heap.size w w' := by
  have hb : Below w.heap.size w w := Below.refl _ _
  cases t1 : okB l0 l1
  · have T1 := Lib.hid t1
    clear t1
    go_enter Try.func13, Try.ntmps13
    go_wp2_with fail
    refine (dec_ok _ _ [0, 4] [0, 0] [4, 4] _ _ _ _ _ dec_lit2 (by exact Ints.litA _ _ _ _ _ rfl (by decide)) (by exact Ints.litB _ _ _ _ _ rfl (by decide)) (by decide) rfl rfl).mono ?_
    rintro e w1 ⟨Ax, cx, rfl, ox, bw1⟩
    replace bw1 := below_of2 bw1
    replace h0 := h0.below bw1
    replace h1 := h1.below bw1
    replace h2 := h2.below bw1
    replace hb := below_trans hb bw1
    have hx := Ints.of_own ox
    clear bw1 ox
    go_wp2_with fail
    refine (equal_at Ax _ [4, 4] [4, 4] _ _ _ _ _ (by exact Ints.alloc hx _) (by exact Ints.lit _ _ _ _ rfl (by decide)) rfl rfl).mono ?_
    rintro e w2 ⟨rfl, nw2, hww2⟩
    have bw2 := below_of_drewN hww2
    clear hww2
    replace bw2 := below_of1 bw2
    replace h0 := h0.below bw2
    replace h1 := h1.below bw2
    replace h2 := h2.below bw2
    replace hb := below_trans hb bw2
    clear bw2
    rw [eqB_true rfl]
    clear hx
    go_wp2_with fail
    refine (three_any a0 a1 a2 l0 l1 l2 c0 c1 c2 _ h0 h1 h2).mono ?_
    rintro e w' ⟨rfl, rfl⟩
    rw [T1.out]
    go_wp2
    go_ret
    exact ⟨rfl, hb⟩
  cases t2 : okB l1 l2
  · have T1 := Lib.hid t1
    have T2 := Lib.hid t2
    clear t1 t2
    go_enter Try.func13, Try.ntmps13
    go_wp2_with fail
    refine (dec_ok _ _ [0, 4] [0, 0] [4, 4] _ _ _ _ _ dec_lit2 (by exact Ints.litA _ _ _ _ _ rfl (by decide)) (by exact Ints.litB _ _ _ _ _ rfl (by decide)) (by decide) rfl rfl).mono ?_
    rintro e w1 ⟨Ax, cx, rfl, ox, bw1⟩
    replace bw1 := below_of2 bw1
    replace h0 := h0.below bw1
    replace h1 := h1.below bw1
    replace h2 := h2.below bw1
    replace hb := below_trans hb bw1
    have hx := Ints.of_own ox
    clear bw1 ox
    go_wp2_with fail
    refine (equal_at Ax _ [4, 4] [4, 4] _ _ _ _ _ (by exact Ints.alloc hx _) (by exact Ints.lit _ _ _ _ rfl (by decide)) rfl rfl).mono ?_
    rintro e w2 ⟨rfl, nw2, hww2⟩
    have bw2 := below_of_drewN hww2
    clear hww2
    replace bw2 := below_of1 bw2
    replace h0 := h0.below bw2
    replace h1 := h1.below bw2
    replace h2 := h2.below bw2
    replace hb := below_trans hb bw2
    clear bw2
    rw [eqB_true rfl]
    clear hx
    go_wp2_with fail
    refine (three_any a0 a1 a2 l0 l1 l2 c0 c1 c2 _ h0 h1 h2).mono ?_
    rintro e w' ⟨rfl, rfl⟩
    rw [T1.out, T2.out]
    go_wp2
    go_ret
    exact ⟨rfl, hb⟩
  obtain ⟨v0, v1, e01⟩ := chk2_iff.1 (chk2_of_okB t1)
  obtain ⟨_, v2, e12⟩ := chk2_iff.1 (chk2_of_okB t2)
  have T1 := Lib.hid t1
  have T2 := Lib.hid t2
  clear t1 t2
  obtain ⟨a, za⟩ := ex_dec v0 v2 (by omega)
  obtain ⟨b, zb⟩ := ex_dec v1 v2 e12
  obtain ⟨c, zc⟩ := ex_dec v2 v0 (by omega)
  obtain ⟨d, zd⟩ := ex_dec v2 v1 e12.symm
  clear e01 e12
  cases lk : leK l0 l1
  · have LK := Lib.hid lk
    clear lk
    go_enter Try.func13, Try.ntmps13
    go_wp2_with fail
    refine (dec_ok _ _ [0, 4] [0, 0] [4, 4] _ _ _ _ _ dec_lit2 (by exact Ints.litA _ _ _ _ _ rfl (by decide)) (by exact Ints.litB _ _ _ _ _ rfl (by decide)) (by decide) rfl rfl).mono ?_
    rintro e w1 ⟨Ax, cx, rfl, ox, bw1⟩
    replace bw1 := below_of2 bw1
    replace h0 := h0.below bw1
    replace h1 := h1.below bw1
    replace h2 := h2.below bw1
    replace hb := below_trans hb bw1
    have hx := Ints.of_own ox
    clear bw1 ox
    go_wp2_with fail
    refine (equal_at Ax _ [4, 4] [4, 4] _ _ _ _ _ (by exact Ints.alloc hx _) (by exact Ints.lit _ _ _ _ rfl (by decide)) rfl rfl).mono ?_
    rintro e w2 ⟨rfl, nw2, hww2⟩
    have bw2 := below_of_drewN hww2
    clear hww2
    replace bw2 := below_of1 bw2
    replace h0 := h0.below bw2
    replace h1 := h1.below bw2
    replace h2 := h2.below bw2
    replace hb := below_trans hb bw2
    clear bw2
    rw [eqB_true rfl]
    clear hx
    go_wp2_with fail
    refine (three_any a0 a1 a2 l0 l1 l2 c0 c1 c2 _ h0 h1 h2).mono ?_
    rintro e w' ⟨rfl, rfl⟩
    rw [T1.out, T2.out]
    go_wp2_with fail
    refine (dec_ok a0 a2 l0 l2 a _ _ c0 c2 _ za h0 h2 k0 rfl rfl).mono ?_
    rintro e w3 ⟨Aa, ca, rfl, oa, bw3⟩
    replace h0 := h0.below bw3
    replace h1 := h1.below bw3
    replace h2 := h2.below bw3
    replace hb := below_trans hb bw3
    have ha := Ints.of_own oa
    clear bw3 oa
    go_wp2_with fail
    refine (dec_ok a1 a2 l1 l2 b _ _ c1 c2 _ zb h1 h2 k1 rfl rfl).mono ?_
    rintro e w4 ⟨Ap, cp, rfl, op, bw4⟩
    replace h0 := h0.below bw4
    replace h1 := h1.below bw4
    replace h2 := h2.below bw4
    replace ha := ha.below bw4
    replace hb := below_trans hb bw4
    have hp := Ints.of_own op
    clear bw4 op
    go_wp2_with fail
    refine (dec_ok a2 a0 l2 l0 c _ _ c2 c0 _ zc h2 h0 k2 rfl rfl).mono ?_
    rintro e w5 ⟨Ac, cc, rfl, oc, bw5⟩
    replace h0 := h0.below bw5
    replace h1 := h1.below bw5
    replace h2 := h2.below bw5
    replace ha := ha.below bw5
    replace hp := hp.below bw5
    replace hb := below_trans hb bw5
    have hc := Ints.of_own oc
    clear bw5 oc
    go_wp2_with fail
    refine (dec_ok a2 a1 l2 l1 d _ _ c2 c1 _ zd h2 h1 k2 rfl rfl).mono ?_
    rintro e w6 ⟨Ad, cd, rfl, od, bw6⟩
    replace h0 := h0.below bw6
    replace h1 := h1.below bw6
    replace h2 := h2.below bw6
    replace ha := ha.below bw6
    replace hp := hp.below bw6
    replace hc := hc.below bw6
    replace hb := below_trans hb bw6
    have hd := Ints.of_own od
    clear bw6 od
    go_wp2_with fail
    refine (kle_any a0 a1 l0 l1 c0 c1 _ h0 h1).mono ?_
    rintro e w7 ⟨rfl, nw7, hww7⟩
    have bw7 := below_of_drewN hww7
    clear hww7
    replace ha := ha.below bw7
    replace hp := hp.below bw7
    replace hc := hc.below bw7
    replace hd := hd.below bw7
    replace hb := below_trans hb bw7
    clear bw7
    rw [LK.out]
    go_wp2
    go_ret
    exact ⟨rfl, hb⟩
  · have Q1 := Lib.hid (dec_mono za zb lk)
    have Q2 := Lib.hid (dec_anti zc zd lk)
    have LK := Lib.hid lk
    clear lk
    go_enter Try.func13, Try.ntmps13
    go_wp2_with fail
    refine (dec_ok _ _ [0, 4] [0, 0] [4, 4] _ _ _ _ _ dec_lit2 (by exact Ints.litA _ _ _ _ _ rfl (by decide)) (by exact Ints.litB _ _ _ _ _ rfl (by decide)) (by decide) rfl rfl).mono ?_
    rintro e w1 ⟨Ax, cx, rfl, ox, bw1⟩
    replace bw1 := below_of2 bw1
    replace h0 := h0.below bw1
    replace h1 := h1.below bw1
    replace h2 := h2.below bw1
    replace hb := below_trans hb bw1
    have hx := Ints.of_own ox
    clear bw1 ox
    go_wp2_with fail
    refine (equal_at Ax _ [4, 4] [4, 4] _ _ _ _ _ (by exact Ints.alloc hx _) (by exact Ints.lit _ _ _ _ rfl (by decide)) rfl rfl).mono ?_
    rintro e w2 ⟨rfl, nw2, hww2⟩
    have bw2 := below_of_drewN hww2
    clear hww2
    replace bw2 := below_of1 bw2
    replace h0 := h0.below bw2
    replace h1 := h1.below bw2
    replace h2 := h2.below bw2
    replace hb := below_trans hb bw2
    clear bw2
    rw [eqB_true rfl]
    clear hx
    go_wp2_with fail
    refine (three_any a0 a1 a2 l0 l1 l2 c0 c1 c2 _ h0 h1 h2).mono ?_
    rintro e w' ⟨rfl, rfl⟩
    rw [T1.out, T2.out]
    go_wp2_with fail
    refine (dec_ok a0 a2 l0 l2 a _ _ c0 c2 _ za h0 h2 k0 rfl rfl).mono ?_
    rintro e w3 ⟨Aa, ca, rfl, oa, bw3⟩
    replace h0 := h0.below bw3
    replace h1 := h1.below bw3
    replace h2 := h2.below bw3
    replace hb := below_trans hb bw3
    have ha := Ints.of_own oa
    clear bw3 oa
    go_wp2_with fail
    refine (dec_ok a1 a2 l1 l2 b _ _ c1 c2 _ zb h1 h2 k1 rfl rfl).mono ?_
    rintro e w4 ⟨Ap, cp, rfl, op, bw4⟩
    replace h0 := h0.below bw4
    replace h1 := h1.below bw4
    replace h2 := h2.below bw4
    replace ha := ha.below bw4
    replace hb := below_trans hb bw4
    have hp := Ints.of_own op
    clear bw4 op
    go_wp2_with fail
    refine (dec_ok a2 a0 l2 l0 c _ _ c2 c0 _ zc h2 h0 k2 rfl rfl).mono ?_
    rintro e w5 ⟨Ac, cc, rfl, oc, bw5⟩
    replace h0 := h0.below bw5
    replace h1 := h1.below bw5
    replace h2 := h2.below bw5
    replace ha := ha.below bw5
    replace hp := hp.below bw5
    replace hb := below_trans hb bw5
    have hc := Ints.of_own oc
    clear bw5 oc
    go_wp2_with fail
    refine (dec_ok a2 a1 l2 l1 d _ _ c2 c1 _ zd h2 h1 k2 rfl rfl).mono ?_
    rintro e w6 ⟨Ad, cd, rfl, od, bw6⟩
    replace h0 := h0.below bw6
    replace h1 := h1.below bw6
    replace h2 := h2.below bw6
    replace ha := ha.below bw6
    replace hp := hp.below bw6
    replace hc := hc.below bw6
    replace hb := below_trans hb bw6
    have hd := Ints.of_own od
    clear bw6 od
    go_wp2_with fail
    refine (kle_any a0 a1 l0 l1 c0 c1 _ h0 h1).mono ?_
    rintro e w7 ⟨rfl, nw7, hww7⟩
    have bw7 := below_of_drewN hww7
    clear hww7
    replace ha := ha.below bw7
    replace hp := hp.below bw7
    replace hc := hc.below bw7
    replace hd := hd.below bw7
    replace hb := below_trans hb bw7
    clear bw7
    rw [LK.out]
    go_wp2_with fail
    refine (kle_any Aa Ap a b ca cp _ ha hp).mono ?_
    rintro e w8 ⟨rfl, nw8, hww8⟩
    have bw8 := below_of_drewN hww8
    clear hww8
    replace hc := hc.below bw8
    replace hd := hd.below bw8
    replace hb := below_trans hb bw8
    clear bw8
    rw [Q1.out]
    go_wp2_with fail
    refine (kle_any Ad Ac d c cd cc _ hd hc).mono ?_
    rintro e w9 ⟨rfl, nw9, hww9⟩
    have bw9 := below_of_drewN hww9
    clear hww9
    replace hb := below_trans hb bw9
    clear bw9
    rw [Q2.out]
    go_wp2
    go_ret
    exact ⟨rfl, hb⟩

end Go.Proofs.Ytpcodoojdkkkhaa
