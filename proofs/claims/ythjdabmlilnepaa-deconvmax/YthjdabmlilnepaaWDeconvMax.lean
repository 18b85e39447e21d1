
/-
  The walk of the law DeconvMax.
-/
import Derived.Test.YthjdabmlilnepaaConvK
namespace Go.Proofs.Ythjdabmlilnepaa
set_option linter.all false
open Go.RowKit Go.Shelf


theorem dec_lit4 : Decs [2, 4] [1, 1] [3, 3] := ⟨cv_of (by decide), cv_of (by decide), rfl, by decide⟩

theorem dec_max {f g h m x a b : List Int} (zm : Zips max f g m) (zx : Decs m h x) (za : Decs f h a) (zb : Decs g h b) : Zips max a b x := by
  have e1 := zm.len; have e2 := zm.rlen; have e3 := zx.rlen; have e4 := za.rlen; have e5 := zb.rlen; have e6 := za.len
  refine ⟨za.r, zb.r, by omega, by omega, zx.r, fun t ht => ?_⟩
  have x0 := zx.r.lo t (by omega)
  have a0 := za.r.lo t (by omega)
  have h1 : gt a t ≤ gt x t := (za.iff (by omega) x0).2 (fun j hj => by have := zx.ge t j (by omega); have := zm.val (t + j) (by omega); omega)
  have h2 : gt b t ≤ gt x t := (zb.iff (by omega) x0).2 (fun j hj => by have := zx.ge t j (by omega); have := zm.val (t + j) (by omega); omega)
  have h3 : gt x t ≤ max (gt a t) (gt b t) := (zx.iff (by omega) (by omega)).2 (fun j hj => by
    have := za.ge t j (by omega); have := zb.ge t j (by omega); have := zm.val (t + j) (by omega); omega)
  omega

set_option maxHeartbeats 3200000 in
theorem walk_DeconvMax (a0 : Option Addr) (c0 : Nat) (l0 : List Int) (a1 : Option Addr) (c1 : Nat) (l1 : List Int) (a2 : Option Addr) (c2 : Nat) (l2 : List Int) (w : World)
    (h0 : Ints w a0 l0) (k0 : l0.length ≤ c0) (h1 : Ints w a1 l1) (k1 : l1.length ≤ c1) (h2 : Ints w a2 l2) (k2 : l2.length ≤ c2) :
    Calls Try.prog 13 #[.slice a0 l0.length c0, .slice a1 l1.length c1, .slice a2 l2.length c2] w fun e w' => e = .returned (.bool true) ∧ Below w.heap.size w w' := by
  have hb : Below w.heap.size w w := Below.refl _ _
  cases t1 : okB l0 l1
  · have T1 := Lib.hid t1
    clear t1
    go_enter Try.func13, Try.ntmps13
    go_wp2_with fail
    refine (dec_ok _ _ [2, 4] [1, 1] [3, 3] _ _ _ _ _ dec_lit4 (by exact Ints.litA _ _ _ _ _ rfl (by decide)) (by exact Ints.litB _ _ _ _ _ rfl (by decide)) (by decide) rfl rfl).mono ?_
    rintro e w1 ⟨Ax, cx, rfl, ox, bw1⟩
    replace bw1 := below_of2 bw1
    replace h0 := h0.below bw1
    replace h1 := h1.below bw1
    replace h2 := h2.below bw1
    replace hb := below_trans hb bw1
    have hx := Ints.of_own ox
    clear bw1 ox
    go_wp2_with fail
    refine (equal_at Ax _ [3, 3] [3, 3] _ _ _ _ _ (by exact Ints.alloc hx _) (by exact Ints.lit _ _ _ _ rfl (by decide)) rfl rfl).mono ?_
    rintro e w2 ⟨rfl, nw2, hww2⟩
    have bw2 := below_of_drewN hww2
    clear hww2
    replace bw2 := below_of1 bw2
    replace h0 := h0.below bw2
    replace h1 := h1.below bw2
    replace h2 := h2.below bw2
    replace hb := below_trans hb bw2
    clear bw2
    rw [eqB_true rfl]
    clear hx
    go_wp2_with fail
    refine (three_any a0 a1 a2 l0 l1 l2 c0 c1 c2 _ h0 h1 h2).mono ?_
    rintro e w' ⟨rfl, rfl⟩
    rw [T1.out]
    go_wp2
    go_ret
    exact ⟨rfl, hb⟩
  cases t2 : okB l1 l2
  · have T1 := Lib.hid t1
    have T2 := Lib.hid t2
    clear t1 t2
    go_enter Try.func13, Try.ntmps13
    go_wp2_with fail
    refine (dec_ok _ _ [2, 4] [1, 1] [3, 3] _ _ _ _ _ dec_lit4 (by exact Ints.litA _ _ _ _ _ rfl (by decide)) (by exact Ints.litB _ _ _ _ _ rfl (by decide)) (by decide) rfl rfl).mono ?_
    rintro e w1 ⟨Ax, cx, rfl, ox, bw1⟩
    replace bw1 := below_of2 bw1
    replace h0 := h0.below bw1
    replace h1 := h1.below bw1
    replace h2 := h2.below bw1
    replace hb := below_trans hb bw1
    have hx := Ints.of_own ox
    clear bw1 ox
    go_wp2_with fail
    refine (equal_at Ax _ [3, 3] [3, 3] _ _ _ _ _ (by exact Ints.alloc hx _) (by exact Ints.lit _ _ _ _ rfl (by decide)) rfl rfl).mono ?_
    rintro e w2 ⟨rfl, nw2, hww2⟩
    have bw2 := below_of_drewN hww2
    clear hww2
    replace bw2 := below_of1 bw2
    replace h0 := h0.below bw2
    replace h1 := h1.below bw2
    replace h2 := h2.below bw2
    replace hb := below_trans hb bw2
    clear bw2
    rw [eqB_true rfl]
    clear hx
    go_wp2_with fail
    refine (three_any a0 a1 a2 l0 l1 l2 c0 c1 c2 _ h0 h1 h2).mono ?_
    rintro e w' ⟨rfl, rfl⟩
    rw [T1.out, T2.out]
    go_wp2
    go_ret
    exact ⟨rfl, hb⟩
  obtain ⟨v0, v1, e01⟩ := chk2_iff.1 (chk2_of_okB t1)
  obtain ⟨_, v2, e12⟩ := chk2_iff.1 (chk2_of_okB t2)
  have T1 := Lib.hid t1
  have T2 := Lib.hid t2
  clear t1 t2
  obtain ⟨m, zm⟩ := ex_max v0 v1 e01
  have em := zm.rlen
  obtain ⟨x, zx⟩ := ex_dec zm.r v2 (by omega)
  obtain ⟨a, za⟩ := ex_dec v0 v2 (by omega)
  obtain ⟨b, zb⟩ := ex_dec v1 v2 e12
  have zy := dec_max zm zx za zb
  clear e01 e12 em
  go_enter Try.func13, Try.ntmps13
  go_wp2_with fail
  refine (dec_ok _ _ [2, 4] [1, 1] [3, 3] _ _ _ _ _ dec_lit4 (by exact Ints.litA _ _ _ _ _ rfl (by decide)) (by exact Ints.litB _ _ _ _ _ rfl (by decide)) (by decide) rfl rfl).mono ?_
  rintro e w1 ⟨Ax, cx, rfl, ox, bw1⟩
  replace bw1 := below_of2 bw1
  replace h0 := h0.below bw1
  replace h1 := h1.below bw1
  replace h2 := h2.below bw1
  replace hb := below_trans hb bw1
  have hx := Ints.of_own ox
  clear bw1 ox
  go_wp2_with fail
  refine (equal_at Ax _ [3, 3] [3, 3] _ _ _ _ _ (by exact Ints.alloc hx _) (by exact Ints.lit _ _ _ _ rfl (by decide)) rfl rfl).mono ?_
  rintro e w2 ⟨rfl, nw2, hww2⟩
  have bw2 := below_of_drewN hww2
  clear hww2
  replace bw2 := below_of1 bw2
  replace h0 := h0.below bw2
  replace h1 := h1.below bw2
  replace h2 := h2.below bw2
  replace hb := below_trans hb bw2
  clear bw2
  rw [eqB_true rfl]
  clear hx
  go_wp2_with fail
  refine (three_any a0 a1 a2 l0 l1 l2 c0 c1 c2 _ h0 h1 h2).mono ?_
  rintro e w' ⟨rfl, rfl⟩
  rw [T1.out, T2.out]
  go_wp2_with fail
  refine (max_ok a0 a1 l0 l1 m c0 c1 _ zm h0 h1).mono ?_
  rintro e w3 ⟨Am, cm, rfl, om, bw3⟩
  replace h0 := h0.below bw3
  replace h1 := h1.below bw3
  replace h2 := h2.below bw3
  replace hb := below_trans hb bw3
  have hm := Ints.of_own om
  have km := own_cap om
  clear bw3 om
  go_wp2_with fail
  refine (dec_ok Am a2 m l2 x _ _ cm c2 _ zx hm h2 km rfl rfl).mono ?_
  rintro e w4 ⟨Ax, cx, rfl, ox, bw4⟩
  replace h0 := h0.below bw4
  replace h1 := h1.below bw4
  replace h2 := h2.below bw4
  replace hb := below_trans hb bw4
  have hx := Ints.of_own ox
  clear bw4 ox
  go_wp2_with fail
  refine (dec_ok a0 a2 l0 l2 a _ _ c0 c2 _ za h0 h2 k0 rfl rfl).mono ?_
  rintro e w5 ⟨Aa, ca, rfl, oa, bw5⟩
  replace h1 := h1.below bw5
  replace h2 := h2.below bw5
  replace hx := hx.below bw5
  replace hb := below_trans hb bw5
  have ha := Ints.of_own oa
  clear bw5 oa
  go_wp2_with fail
  refine (dec_ok a1 a2 l1 l2 b _ _ c1 c2 _ zb h1 h2 k1 rfl rfl).mono ?_
  rintro e w6 ⟨Ap, cp, rfl, op, bw6⟩
  replace hx := hx.below bw6
  replace ha := ha.below bw6
  replace hb := below_trans hb bw6
  have hp := Ints.of_own op
  clear bw6 op
  go_wp2_with fail
  refine (max_ok Aa Ap a b x ca cp _ zy ha hp).mono ?_
  rintro e w7 ⟨Ay, cy, rfl, oy, bw7⟩
  replace hx := hx.below bw7
  replace hb := below_trans hb bw7
  have hy := Ints.of_own oy
  clear bw7 oy
  go_wp2_with fail
  refine (equal_any Ax Ay x x cx cy _ hx hy).mono ?_
  rintro e w8 ⟨rfl, nw8, hww8⟩
  have bw8 := below_of_drewN hww8
  clear hww8
  replace hb := below_trans hb bw8
  clear bw8
  rw [eqB_true rfl]
  go_wp2
  go_ret
  exact ⟨rfl, hb⟩

end Go.Proofs.Ythjdabmlilnepaa
