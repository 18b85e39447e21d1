
/-
  The walk of the law PointLattice.
-/
import Derived.Test.YthjdabmlilnepaaPointK
namespace Go.Proofs.Ythjdabmlilnepaa
set_option linter.all false
open Go.RowKit

theorem min_at (A A' : Option Addr) (l m R : List Int) (nl nm c d : Nat) (w : World) (z : Zips min l m R) (h : Ints w A l) (h' : Ints w A' m) (hl : nl = l.length) (hm : nm = m.length) :
    Calls Try.prog 15 #[.slice A nl c, .slice A' nm d] w (Ans R 0 w) := by
  subst hl hm; exact min_ok A A' l m R c d w z h h'

theorem zips_lit : Zips min [0, 3] [1, 2] [0, 2] := by
  have hc : ∀ l : List Int, chk l = 0 → Cv l := fun l h => cv_of h
  refine ⟨hc _ (by decide), hc _ (by decide), rfl, rfl, hc _ (by decide), fun t ht => ?_⟩
  match t, ht with
  | 0, _ => rfl
  | 1, _ => rfl

set_option maxHeartbeats 1600000 in
theorem walk_PointLattice (a0 : Option Addr) (c0 : Nat) (l0 : List Int) (a1 : Option Addr) (c1 : Nat) (l1 : List Int) (a2 : Option Addr) (c2 : Nat) (l2 : List Int) (w : World)
    (h0 : Ints w a0 l0) (_k0 : l0.length ≤ c0) (h1 : Ints w a1 l1) (_k1 : l1.length ≤ c1) (h2 : Ints w a2 l2) (_k2 : l2.length ≤ c2) :
    Calls Try.prog 6 #[.slice a0 l0.length c0, .slice a1 l1.length c1, .slice a2 l2.length c2] w fun e w' => e = .returned (.bool true) ∧ Below w.heap.size w w' := by
  have hb : Below w.heap.size w w := Below.refl _ _
  cases t1 : okB l0 l1
  · have T1 := Lib.hid t1
    clear t1
    go_enter Try.func6, Try.ntmps6
    go_wp2_with fail
    refine (min_at _ _ [0, 3] [1, 2] [0, 2] _ _ _ _ _ zips_lit (by exact Ints.litA _ _ _ _ _ rfl (by decide)) (by exact Ints.litB _ _ _ _ _ rfl (by decide)) rfl rfl).mono ?_
    rintro e w1 ⟨Ax, cx, rfl, ox, bw1⟩
    replace bw1 := below_of2 bw1
    replace h0 := h0.below bw1
    replace h1 := h1.below bw1
    replace h2 := h2.below bw1
    replace hb := below_trans hb bw1
    have hx := Ints.of_own ox
    clear bw1 ox
    go_wp2_with fail
    refine (equal_at Ax _ [0, 2] [0, 2] _ _ _ _ _ (by exact Ints.alloc hx _) (by exact Ints.lit _ _ _ _ rfl (by decide)) rfl rfl).mono ?_
    rintro e w2 ⟨rfl, nw2, hww2⟩
    have bw2 := below_of_drewN hww2
    clear hww2
    replace bw2 := below_of1 bw2
    replace h0 := h0.below bw2
    replace h1 := h1.below bw2
    replace h2 := h2.below bw2
    replace hb := below_trans hb bw2
    clear bw2
    rw [eqB_true rfl]
    clear hx
    go_wp2_with fail
    refine (three_any a0 a1 a2 l0 l1 l2 c0 c1 c2 _ h0 h1 h2).mono ?_
    rintro e w' ⟨rfl, rfl⟩
    rw [T1.out]
    go_wp2
    go_ret
    exact ⟨rfl, hb⟩
  cases t2 : okB l1 l2
  · have T1 := Lib.hid t1
    have T2 := Lib.hid t2
    clear t1 t2
    go_enter Try.func6, Try.ntmps6
    go_wp2_with fail
    refine (min_at _ _ [0, 3] [1, 2] [0, 2] _ _ _ _ _ zips_lit (by exact Ints.litA _ _ _ _ _ rfl (by decide)) (by exact Ints.litB _ _ _ _ _ rfl (by decide)) rfl rfl).mono ?_
    rintro e w1 ⟨Ax, cx, rfl, ox, bw1⟩
    replace bw1 := below_of2 bw1
    replace h0 := h0.below bw1
    replace h1 := h1.below bw1
    replace h2 := h2.below bw1
    replace hb := below_trans hb bw1
    have hx := Ints.of_own ox
    clear bw1 ox
    go_wp2_with fail
    refine (equal_at Ax _ [0, 2] [0, 2] _ _ _ _ _ (by exact Ints.alloc hx _) (by exact Ints.lit _ _ _ _ rfl (by decide)) rfl rfl).mono ?_
    rintro e w2 ⟨rfl, nw2, hww2⟩
    have bw2 := below_of_drewN hww2
    clear hww2
    replace bw2 := below_of1 bw2
    replace h0 := h0.below bw2
    replace h1 := h1.below bw2
    replace h2 := h2.below bw2
    replace hb := below_trans hb bw2
    clear bw2
    rw [eqB_true rfl]
    clear hx
    go_wp2_with fail
    refine (three_any a0 a1 a2 l0 l1 l2 c0 c1 c2 _ h0 h1 h2).mono ?_
    rintro e w' ⟨rfl, rfl⟩
    rw [T1.out, T2.out]
    go_wp2
    go_ret
    exact ⟨rfl, hb⟩
  obtain ⟨v0, v1, e1⟩ := chk2_iff.1 (chk2_of_okB t1)
  obtain ⟨_, v2, e2⟩ := chk2_iff.1 (chk2_of_okB t2)
  obtain ⟨a, za⟩ := ex_min v0 v1 e1
  obtain ⟨b, zb⟩ := ex_max v0 v1 e1
  have ea := za.rlen
  have eb := zb.rlen
  obtain ⟨gh, zg⟩ := ex_max v1 v2 e2
  have eg := zg.rlen
  obtain ⟨x, zx⟩ := ex_min v0 zg.r (by omega)
  obtain ⟨fh, zf⟩ := ex_min v0 v2 (by omega)
  have ef := zf.rlen
  have ex := zx.rlen
  have zc : Zips max l0 a l0 := ⟨v0, za.r, by omega, rfl, v0, fun t ht => by rw [za.val t ht]; omega⟩
  have zd : Zips min l0 b l0 := ⟨v0, zb.r, by omega, rfl, v0, fun t ht => by rw [zb.val t ht]; omega⟩
  have zy : Zips max a fh x := ⟨za.r, zf.r, by omega, by omega, zx.r, fun t ht => by rw [zx.val t (by omega), zg.val t (by omega), za.val t (by omega), zf.val t (by omega)]; omega⟩
  have Q1 : Hid (leK a l0 = true) := Lib.hid ((leK_iff za.r v0 (by omega)).2 (fun t ht => by rw [za.val t (by omega)]; omega))
  have Q2 : Hid (leK l0 b = true) := Lib.hid ((leK_iff v0 zb.r (by omega)).2 (fun t ht => by rw [zb.val t (by omega)]; omega))
  have q3 : leK l2 a = (leK l2 l0 && leK l2 l1) := by
    apply bool_eq
    rw [Bool.and_eq_true, leK_iff v2 za.r (by omega), leK_iff v2 v0 (by omega), leK_iff v2 v1 (by omega)]
    constructor
    · intro h; exact ⟨fun t ht => by have := h t ht; rw [za.val t (by omega)] at this; omega, fun t ht => by have := h t ht; rw [za.val t (by omega)] at this; omega⟩
    · rintro ⟨p, q⟩ t ht; rw [za.val t (by omega)]; have := p t ht; have := q t ht; omega
  have T1 := Lib.hid t1
  have T2 := Lib.hid t2
  clear t1 t2 e1 e2 ea eb eg ef ex
  cases p : leK l2 l0
  · have P := Lib.hid p
    have Q3 : Hid (leK l2 a = false) := Lib.hid (by rw [q3, p]; rfl)
    clear p q3
    go_enter Try.func6, Try.ntmps6
    go_wp2_with fail
    refine (min_at _ _ [0, 3] [1, 2] [0, 2] _ _ _ _ _ zips_lit (by exact Ints.litA _ _ _ _ _ rfl (by decide)) (by exact Ints.litB _ _ _ _ _ rfl (by decide)) rfl rfl).mono ?_
    rintro e w1 ⟨Ax, cx, rfl, ox, bw1⟩
    replace bw1 := below_of2 bw1
    replace h0 := h0.below bw1
    replace h1 := h1.below bw1
    replace h2 := h2.below bw1
    replace hb := below_trans hb bw1
    have hx := Ints.of_own ox
    clear bw1 ox
    go_wp2_with fail
    refine (equal_at Ax _ [0, 2] [0, 2] _ _ _ _ _ (by exact Ints.alloc hx _) (by exact Ints.lit _ _ _ _ rfl (by decide)) rfl rfl).mono ?_
    rintro e w2 ⟨rfl, nw2, hww2⟩
    have bw2 := below_of_drewN hww2
    clear hww2
    replace bw2 := below_of1 bw2
    replace h0 := h0.below bw2
    replace h1 := h1.below bw2
    replace h2 := h2.below bw2
    replace hb := below_trans hb bw2
    clear bw2
    rw [eqB_true rfl]
    clear hx
    go_wp2_with fail
    refine (three_any a0 a1 a2 l0 l1 l2 c0 c1 c2 _ h0 h1 h2).mono ?_
    rintro e w' ⟨rfl, rfl⟩
    rw [T1.out, T2.out]
    go_wp2_with fail
    refine (min_ok a0 a1 l0 l1 a c0 c1 _ za h0 h1).mono ?_
    rintro e w3 ⟨Aa, ca, rfl, oa, bw3⟩
    replace h0 := h0.below bw3
    replace h1 := h1.below bw3
    replace h2 := h2.below bw3
    replace hb := below_trans hb bw3
    have ha := Ints.of_own oa
    clear bw3 oa
    go_wp2_with fail
    refine (max_ok a0 a1 l0 l1 b c0 c1 _ zb h0 h1).mono ?_
    rintro e w4 ⟨Ab, cb, rfl, ob, bw4⟩
    replace h0 := h0.below bw4
    replace h1 := h1.below bw4
    replace h2 := h2.below bw4
    replace ha := ha.below bw4
    replace hb := below_trans hb bw4
    have hb' := Ints.of_own ob
    clear bw4 ob
    go_wp2_with fail
    refine (max_ok a0 Aa l0 a l0 c0 ca _ zc h0 ha).mono ?_
    rintro e w5 ⟨Ac, cc, rfl, oc, bw5⟩
    replace h0 := h0.below bw5
    replace h1 := h1.below bw5
    replace h2 := h2.below bw5
    replace ha := ha.below bw5
    replace hb' := hb'.below bw5
    replace hb := below_trans hb bw5
    have hc := Ints.of_own oc
    clear bw5 oc
    go_wp2_with fail
    refine (min_ok a0 Ab l0 b l0 c0 cb _ zd h0 hb').mono ?_
    rintro e w6 ⟨Ad, cd, rfl, od, bw6⟩
    replace h0 := h0.below bw6
    replace h1 := h1.below bw6
    replace h2 := h2.below bw6
    replace ha := ha.below bw6
    replace hb' := hb'.below bw6
    replace hc := hc.below bw6
    replace hb := below_trans hb bw6
    have hd := Ints.of_own od
    clear bw6 od
    go_wp2_with fail
    refine (max_ok a1 a2 l1 l2 gh c1 c2 _ zg h1 h2).mono ?_
    rintro e w7 ⟨Ag, cg, rfl, og, bw7⟩
    replace h0 := h0.below bw7
    replace h1 := h1.below bw7
    replace h2 := h2.below bw7
    replace ha := ha.below bw7
    replace hb' := hb'.below bw7
    replace hc := hc.below bw7
    replace hd := hd.below bw7
    replace hb := below_trans hb bw7
    have hg := Ints.of_own og
    clear bw7 og
    go_wp2_with fail
    refine (min_ok a0 Ag l0 gh x c0 cg _ zx h0 hg).mono ?_
    rintro e w8 ⟨Ax, cx, rfl, ox, bw8⟩
    replace h0 := h0.below bw8
    replace h1 := h1.below bw8
    replace h2 := h2.below bw8
    replace ha := ha.below bw8
    replace hb' := hb'.below bw8
    replace hc := hc.below bw8
    replace hd := hd.below bw8
    replace hb := below_trans hb bw8
    have hx := Ints.of_own ox
    clear bw8 ox
    go_wp2_with fail
    refine (min_ok a0 a2 l0 l2 fh c0 c2 _ zf h0 h2).mono ?_
    rintro e w9 ⟨Af, cf, rfl, of, bw9⟩
    replace h0 := h0.below bw9
    replace h1 := h1.below bw9
    replace h2 := h2.below bw9
    replace ha := ha.below bw9
    replace hb' := hb'.below bw9
    replace hc := hc.below bw9
    replace hd := hd.below bw9
    replace hx := hx.below bw9
    replace hb := below_trans hb bw9
    have hf := Ints.of_own of
    clear bw9 of
    go_wp2_with fail
    refine (max_ok Aa Af a fh x ca cf _ zy ha hf).mono ?_
    rintro e w10 ⟨Ay, cy, rfl, oy, bw10⟩
    replace h0 := h0.below bw10
    replace h1 := h1.below bw10
    replace h2 := h2.below bw10
    replace ha := ha.below bw10
    replace hb' := hb'.below bw10
    replace hc := hc.below bw10
    replace hd := hd.below bw10
    replace hx := hx.below bw10
    replace hb := below_trans hb bw10
    have hy := Ints.of_own oy
    clear bw10 oy
    go_wp2_with fail
    refine (equal_any Ac a0 l0 l0 cc c0 _ hc h0).mono ?_
    rintro e w11 ⟨rfl, nw11, hww11⟩
    have bw11 := below_of_drewN hww11
    clear hww11
    replace h0 := h0.below bw11
    replace h1 := h1.below bw11
    replace h2 := h2.below bw11
    replace ha := ha.below bw11
    replace hb' := hb'.below bw11
    replace hd := hd.below bw11
    replace hx := hx.below bw11
    replace hy := hy.below bw11
    replace hb := below_trans hb bw11
    clear bw11
    rw [eqB_true rfl]
    go_wp2_with fail
    refine (equal_any Ad a0 l0 l0 cd c0 _ hd h0).mono ?_
    rintro e w12 ⟨rfl, nw12, hww12⟩
    have bw12 := below_of_drewN hww12
    clear hww12
    replace h0 := h0.below bw12
    replace h1 := h1.below bw12
    replace h2 := h2.below bw12
    replace ha := ha.below bw12
    replace hb' := hb'.below bw12
    replace hx := hx.below bw12
    replace hy := hy.below bw12
    replace hb := below_trans hb bw12
    clear bw12
    rw [eqB_true rfl]
    go_wp2_with fail
    refine (equal_any Ax Ay x x cx cy _ hx hy).mono ?_
    rintro e w13 ⟨rfl, nw13, hww13⟩
    have bw13 := below_of_drewN hww13
    clear hww13
    replace h0 := h0.below bw13
    replace h1 := h1.below bw13
    replace h2 := h2.below bw13
    replace ha := ha.below bw13
    replace hb' := hb'.below bw13
    replace hb := below_trans hb bw13
    clear bw13
    rw [eqB_true rfl]
    go_wp2_with fail
    refine (kle_any Aa a0 a l0 ca c0 _ ha h0).mono ?_
    rintro e w14 ⟨rfl, nw14, hww14⟩
    have bw14 := below_of_drewN hww14
    clear hww14
    replace h0 := h0.below bw14
    replace h1 := h1.below bw14
    replace h2 := h2.below bw14
    replace ha := ha.below bw14
    replace hb' := hb'.below bw14
    replace hb := below_trans hb bw14
    clear bw14
    rw [Q1.out]
    go_wp2_with fail
    refine (kle_any a0 Ab l0 b c0 cb _ h0 hb').mono ?_
    rintro e w15 ⟨rfl, nw15, hww15⟩
    have bw15 := below_of_drewN hww15
    clear hww15
    replace h0 := h0.below bw15
    replace h1 := h1.below bw15
    replace h2 := h2.below bw15
    replace ha := ha.below bw15
    replace hb := below_trans hb bw15
    clear bw15
    rw [Q2.out]
    go_wp2_with fail
    refine (kle_any a2 a0 l2 l0 c2 c0 _ h2 h0).mono ?_
    rintro e w16 ⟨rfl, nw16, hww16⟩
    have bw16 := below_of_drewN hww16
    clear hww16
    replace h0 := h0.below bw16
    replace h1 := h1.below bw16
    replace h2 := h2.below bw16
    replace ha := ha.below bw16
    replace hb := below_trans hb bw16
    clear bw16
    rw [P.out]
    go_wp2_with fail
    refine (kle_any a2 Aa l2 a c2 ca _ h2 ha).mono ?_
    rintro e w17 ⟨rfl, nw17, hww17⟩
    have bw17 := below_of_drewN hww17
    clear hww17
    replace hb := below_trans hb bw17
    clear bw17
    rw [Q3.out]
    go_wp2
    go_ret
    exact ⟨rfl, hb⟩
  · cases q : leK l2 l1
    · have P := Lib.hid p
      have Q := Lib.hid q
      have Q3 : Hid (leK l2 a = false) := Lib.hid (by rw [q3, p, q]; rfl)
      clear p q q3
      go_enter Try.func6, Try.ntmps6
      go_wp2_with fail
      refine (min_at _ _ [0, 3] [1, 2] [0, 2] _ _ _ _ _ zips_lit (by exact Ints.litA _ _ _ _ _ rfl (by decide)) (by exact Ints.litB _ _ _ _ _ rfl (by decide)) rfl rfl).mono ?_
      rintro e w1 ⟨Ax, cx, rfl, ox, bw1⟩
      replace bw1 := below_of2 bw1
      replace h0 := h0.below bw1
      replace h1 := h1.below bw1
      replace h2 := h2.below bw1
      replace hb := below_trans hb bw1
      have hx := Ints.of_own ox
      clear bw1 ox
      go_wp2_with fail
      refine (equal_at Ax _ [0, 2] [0, 2] _ _ _ _ _ (by exact Ints.alloc hx _) (by exact Ints.lit _ _ _ _ rfl (by decide)) rfl rfl).mono ?_
      rintro e w2 ⟨rfl, nw2, hww2⟩
      have bw2 := below_of_drewN hww2
      clear hww2
      replace bw2 := below_of1 bw2
      replace h0 := h0.below bw2
      replace h1 := h1.below bw2
      replace h2 := h2.below bw2
      replace hb := below_trans hb bw2
      clear bw2
      rw [eqB_true rfl]
      clear hx
      go_wp2_with fail
      refine (three_any a0 a1 a2 l0 l1 l2 c0 c1 c2 _ h0 h1 h2).mono ?_
      rintro e w' ⟨rfl, rfl⟩
      rw [T1.out, T2.out]
      go_wp2_with fail
      refine (min_ok a0 a1 l0 l1 a c0 c1 _ za h0 h1).mono ?_
      rintro e w3 ⟨Aa, ca, rfl, oa, bw3⟩
      replace h0 := h0.below bw3
      replace h1 := h1.below bw3
      replace h2 := h2.below bw3
      replace hb := below_trans hb bw3
      have ha := Ints.of_own oa
      clear bw3 oa
      go_wp2_with fail
      refine (max_ok a0 a1 l0 l1 b c0 c1 _ zb h0 h1).mono ?_
      rintro e w4 ⟨Ab, cb, rfl, ob, bw4⟩
      replace h0 := h0.below bw4
      replace h1 := h1.below bw4
      replace h2 := h2.below bw4
      replace ha := ha.below bw4
      replace hb := below_trans hb bw4
      have hb' := Ints.of_own ob
      clear bw4 ob
      go_wp2_with fail
      refine (max_ok a0 Aa l0 a l0 c0 ca _ zc h0 ha).mono ?_
      rintro e w5 ⟨Ac, cc, rfl, oc, bw5⟩
      replace h0 := h0.below bw5
      replace h1 := h1.below bw5
      replace h2 := h2.below bw5
      replace ha := ha.below bw5
      replace hb' := hb'.below bw5
      replace hb := below_trans hb bw5
      have hc := Ints.of_own oc
      clear bw5 oc
      go_wp2_with fail
      refine (min_ok a0 Ab l0 b l0 c0 cb _ zd h0 hb').mono ?_
      rintro e w6 ⟨Ad, cd, rfl, od, bw6⟩
      replace h0 := h0.below bw6
      replace h1 := h1.below bw6
      replace h2 := h2.below bw6
      replace ha := ha.below bw6
      replace hb' := hb'.below bw6
      replace hc := hc.below bw6
      replace hb := below_trans hb bw6
      have hd := Ints.of_own od
      clear bw6 od
      go_wp2_with fail
      refine (max_ok a1 a2 l1 l2 gh c1 c2 _ zg h1 h2).mono ?_
      rintro e w7 ⟨Ag, cg, rfl, og, bw7⟩
      replace h0 := h0.below bw7
      replace h1 := h1.below bw7
      replace h2 := h2.below bw7
      replace ha := ha.below bw7
      replace hb' := hb'.below bw7
      replace hc := hc.below bw7
      replace hd := hd.below bw7
      replace hb := below_trans hb bw7
      have hg := Ints.of_own og
      clear bw7 og
      go_wp2_with fail
      refine (min_ok a0 Ag l0 gh x c0 cg _ zx h0 hg).mono ?_
      rintro e w8 ⟨Ax, cx, rfl, ox, bw8⟩
      replace h0 := h0.below bw8
      replace h1 := h1.below bw8
      replace h2 := h2.below bw8
      replace ha := ha.below bw8
      replace hb' := hb'.below bw8
      replace hc := hc.below bw8
      replace hd := hd.below bw8
      replace hb := below_trans hb bw8
      have hx := Ints.of_own ox
      clear bw8 ox
      go_wp2_with fail
      refine (min_ok a0 a2 l0 l2 fh c0 c2 _ zf h0 h2).mono ?_
      rintro e w9 ⟨Af, cf, rfl, of, bw9⟩
      replace h0 := h0.below bw9
      replace h1 := h1.below bw9
      replace h2 := h2.below bw9
      replace ha := ha.below bw9
      replace hb' := hb'.below bw9
      replace hc := hc.below bw9
      replace hd := hd.below bw9
      replace hx := hx.below bw9
      replace hb := below_trans hb bw9
      have hf := Ints.of_own of
      clear bw9 of
      go_wp2_with fail
      refine (max_ok Aa Af a fh x ca cf _ zy ha hf).mono ?_
      rintro e w10 ⟨Ay, cy, rfl, oy, bw10⟩
      replace h0 := h0.below bw10
      replace h1 := h1.below bw10
      replace h2 := h2.below bw10
      replace ha := ha.below bw10
      replace hb' := hb'.below bw10
      replace hc := hc.below bw10
      replace hd := hd.below bw10
      replace hx := hx.below bw10
      replace hb := below_trans hb bw10
      have hy := Ints.of_own oy
      clear bw10 oy
      go_wp2_with fail
      refine (equal_any Ac a0 l0 l0 cc c0 _ hc h0).mono ?_
      rintro e w11 ⟨rfl, nw11, hww11⟩
      have bw11 := below_of_drewN hww11
      clear hww11
      replace h0 := h0.below bw11
      replace h1 := h1.below bw11
      replace h2 := h2.below bw11
      replace ha := ha.below bw11
      replace hb' := hb'.below bw11
      replace hd := hd.below bw11
      replace hx := hx.below bw11
      replace hy := hy.below bw11
      replace hb := below_trans hb bw11
      clear bw11
      rw [eqB_true rfl]
      go_wp2_with fail
      refine (equal_any Ad a0 l0 l0 cd c0 _ hd h0).mono ?_
      rintro e w12 ⟨rfl, nw12, hww12⟩
      have bw12 := below_of_drewN hww12
      clear hww12
      replace h0 := h0.below bw12
      replace h1 := h1.below bw12
      replace h2 := h2.below bw12
      replace ha := ha.below bw12
      replace hb' := hb'.below bw12
      replace hx := hx.below bw12
      replace hy := hy.below bw12
      replace hb := below_trans hb bw12
      clear bw12
      rw [eqB_true rfl]
      go_wp2_with fail
      refine (equal_any Ax Ay x x cx cy _ hx hy).mono ?_
      rintro e w13 ⟨rfl, nw13, hww13⟩
      have bw13 := below_of_drewN hww13
      clear hww13
      replace h0 := h0.below bw13
      replace h1 := h1.below bw13
      replace h2 := h2.below bw13
      replace ha := ha.below bw13
      replace hb' := hb'.below bw13
      replace hb := below_trans hb bw13
      clear bw13
      rw [eqB_true rfl]
      go_wp2_with fail
      refine (kle_any Aa a0 a l0 ca c0 _ ha h0).mono ?_
      rintro e w14 ⟨rfl, nw14, hww14⟩
      have bw14 := below_of_drewN hww14
      clear hww14
      replace h0 := h0.below bw14
      replace h1 := h1.below bw14
      replace h2 := h2.below bw14
      replace ha := ha.below bw14
      replace hb' := hb'.below bw14
      replace hb := below_trans hb bw14
      clear bw14
      rw [Q1.out]
      go_wp2_with fail
      refine (kle_any a0 Ab l0 b c0 cb _ h0 hb').mono ?_
      rintro e w15 ⟨rfl, nw15, hww15⟩
      have bw15 := below_of_drewN hww15
      clear hww15
      replace h0 := h0.below bw15
      replace h1 := h1.below bw15
      replace h2 := h2.below bw15
      replace ha := ha.below bw15
      replace hb := below_trans hb bw15
      clear bw15
      rw [Q2.out]
      go_wp2_with fail
      refine (kle_any a2 a0 l2 l0 c2 c0 _ h2 h0).mono ?_
      rintro e w16 ⟨rfl, nw16, hww16⟩
      have bw16 := below_of_drewN hww16
      clear hww16
      replace h0 := h0.below bw16
      replace h1 := h1.below bw16
      replace h2 := h2.below bw16
      replace ha := ha.below bw16
      replace hb := below_trans hb bw16
      clear bw16
      rw [P.out]
      go_wp2_with fail
      refine (kle_any a2 a1 l2 l1 c2 c1 _ h2 h1).mono ?_
      rintro e w17 ⟨rfl, nw17, hww17⟩
      have bw17 := below_of_drewN hww17
      clear hww17
      replace h2 := h2.below bw17
      replace ha := ha.below bw17
      replace hb := below_trans hb bw17
      clear bw17
      rw [Q.out]
      go_wp2_with fail
      refine (kle_any a2 Aa l2 a c2 ca _ h2 ha).mono ?_
      rintro e w18 ⟨rfl, nw18, hww18⟩
      have bw18 := below_of_drewN hww18
      clear hww18
      replace hb := below_trans hb bw18
      clear bw18
      rw [Q3.out]
      go_wp2
      go_ret
      exact ⟨rfl, hb⟩
    · have P := Lib.hid p
      have Q := Lib.hid q
      have Q3 : Hid (leK l2 a = true) := Lib.hid (by rw [q3, p, q]; rfl)
      clear p q q3
      go_enter Try.func6, Try.ntmps6
      go_wp2_with fail
      refine (min_at _ _ [0, 3] [1, 2] [0, 2] _ _ _ _ _ zips_lit (by exact Ints.litA _ _ _ _ _ rfl (by decide)) (by exact Ints.litB _ _ _ _ _ rfl (by decide)) rfl rfl).mono ?_
      rintro e w1 ⟨Ax, cx, rfl, ox, bw1⟩
      replace bw1 := below_of2 bw1
      replace h0 := h0.below bw1
      replace h1 := h1.below bw1
      replace h2 := h2.below bw1
      replace hb := below_trans hb bw1
      have hx := Ints.of_own ox
      clear bw1 ox
      go_wp2_with fail
      refine (equal_at Ax _ [0, 2] [0, 2] _ _ _ _ _ (by exact Ints.alloc hx _) (by exact Ints.lit _ _ _ _ rfl (by decide)) rfl rfl).mono ?_
      rintro e w2 ⟨rfl, nw2, hww2⟩
      have bw2 := below_of_drewN hww2
      clear hww2
      replace bw2 := below_of1 bw2
      replace h0 := h0.below bw2
      replace h1 := h1.below bw2
      replace h2 := h2.below bw2
      replace hb := below_trans hb bw2
      clear bw2
      rw [eqB_true rfl]
      clear hx
      go_wp2_with fail
      refine (three_any a0 a1 a2 l0 l1 l2 c0 c1 c2 _ h0 h1 h2).mono ?_
      rintro e w' ⟨rfl, rfl⟩
      rw [T1.out, T2.out]
      go_wp2_with fail
      refine (min_ok a0 a1 l0 l1 a c0 c1 _ za h0 h1).mono ?_
      rintro e w3 ⟨Aa, ca, rfl, oa, bw3⟩
      replace h0 := h0.below bw3
      replace h1 := h1.below bw3
      replace h2 := h2.below bw3
      replace hb := below_trans hb bw3
      have ha := Ints.of_own oa
      clear bw3 oa
      go_wp2_with fail
      refine (max_ok a0 a1 l0 l1 b c0 c1 _ zb h0 h1).mono ?_
      rintro e w4 ⟨Ab, cb, rfl, ob, bw4⟩
      replace h0 := h0.below bw4
      replace h1 := h1.below bw4
      replace h2 := h2.below bw4
      replace ha := ha.below bw4
      replace hb := below_trans hb bw4
      have hb' := Ints.of_own ob
      clear bw4 ob
      go_wp2_with fail
      refine (max_ok a0 Aa l0 a l0 c0 ca _ zc h0 ha).mono ?_
      rintro e w5 ⟨Ac, cc, rfl, oc, bw5⟩
      replace h0 := h0.below bw5
      replace h1 := h1.below bw5
      replace h2 := h2.below bw5
      replace ha := ha.below bw5
      replace hb' := hb'.below bw5
      replace hb := below_trans hb bw5
      have hc := Ints.of_own oc
      clear bw5 oc
      go_wp2_with fail
      refine (min_ok a0 Ab l0 b l0 c0 cb _ zd h0 hb').mono ?_
      rintro e w6 ⟨Ad, cd, rfl, od, bw6⟩
      replace h0 := h0.below bw6
      replace h1 := h1.below bw6
      replace h2 := h2.below bw6
      replace ha := ha.below bw6
      replace hb' := hb'.below bw6
      replace hc := hc.below bw6
      replace hb := below_trans hb bw6
      have hd := Ints.of_own od
      clear bw6 od
      go_wp2_with fail
      refine (max_ok a1 a2 l1 l2 gh c1 c2 _ zg h1 h2).mono ?_
      rintro e w7 ⟨Ag, cg, rfl, og, bw7⟩
      replace h0 := h0.below bw7
      replace h1 := h1.below bw7
      replace h2 := h2.below bw7
      replace ha := ha.below bw7
      replace hb' := hb'.below bw7
      replace hc := hc.below bw7
      replace hd := hd.below bw7
      replace hb := below_trans hb bw7
      have hg := Ints.of_own og
      clear bw7 og
      go_wp2_with fail
      refine (min_ok a0 Ag l0 gh x c0 cg _ zx h0 hg).mono ?_
      rintro e w8 ⟨Ax, cx, rfl, ox, bw8⟩
      replace h0 := h0.below bw8
      replace h1 := h1.below bw8
      replace h2 := h2.below bw8
      replace ha := ha.below bw8
      replace hb' := hb'.below bw8
      replace hc := hc.below bw8
      replace hd := hd.below bw8
      replace hb := below_trans hb bw8
      have hx := Ints.of_own ox
      clear bw8 ox
      go_wp2_with fail
      refine (min_ok a0 a2 l0 l2 fh c0 c2 _ zf h0 h2).mono ?_
      rintro e w9 ⟨Af, cf, rfl, of, bw9⟩
      replace h0 := h0.below bw9
      replace h1 := h1.below bw9
      replace h2 := h2.below bw9
      replace ha := ha.below bw9
      replace hb' := hb'.below bw9
      replace hc := hc.below bw9
      replace hd := hd.below bw9
      replace hx := hx.below bw9
      replace hb := below_trans hb bw9
      have hf := Ints.of_own of
      clear bw9 of
      go_wp2_with fail
      refine (max_ok Aa Af a fh x ca cf _ zy ha hf).mono ?_
      rintro e w10 ⟨Ay, cy, rfl, oy, bw10⟩
      replace h0 := h0.below bw10
      replace h1 := h1.below bw10
      replace h2 := h2.below bw10
      replace ha := ha.below bw10
      replace hb' := hb'.below bw10
      replace hc := hc.below bw10
      replace hd := hd.below bw10
      replace hx := hx.below bw10
      replace hb := below_trans hb bw10
      have hy := Ints.of_own oy
      clear bw10 oy
      go_wp2_with fail
      refine (equal_any Ac a0 l0 l0 cc c0 _ hc h0).mono ?_
      rintro e w11 ⟨rfl, nw11, hww11⟩
      have bw11 := below_of_drewN hww11
      clear hww11
      replace h0 := h0.below bw11
      replace h1 := h1.below bw11
      replace h2 := h2.below bw11
      replace ha := ha.below bw11
      replace hb' := hb'.below bw11
      replace hd := hd.below bw11
      replace hx := hx.below bw11
      replace hy := hy.below bw11
      replace hb := below_trans hb bw11
      clear bw11
      rw [eqB_true rfl]
      go_wp2_with fail
      refine (equal_any Ad a0 l0 l0 cd c0 _ hd h0).mono ?_
      rintro e w12 ⟨rfl, nw12, hww12⟩
      have bw12 := below_of_drewN hww12
      clear hww12
      replace h0 := h0.below bw12
      replace h1 := h1.below bw12
      replace h2 := h2.below bw12
      replace ha := ha.below bw12
      replace hb' := hb'.below bw12
      replace hx := hx.below bw12
      replace hy := hy.below bw12
      replace hb := below_trans hb bw12
      clear bw12
      rw [eqB_true rfl]
      go_wp2_with fail
      refine (equal_any Ax Ay x x cx cy _ hx hy).mono ?_
      rintro e w13 ⟨rfl, nw13, hww13⟩
      have bw13 := below_of_drewN hww13
      clear hww13
      replace h0 := h0.below bw13
      replace h1 := h1.below bw13
      replace h2 := h2.below bw13
      replace ha := ha.below bw13
      replace hb' := hb'.below bw13
      replace hb := below_trans hb bw13
      clear bw13
      rw [eqB_true rfl]
      go_wp2_with fail
      refine (kle_any Aa a0 a l0 ca c0 _ ha h0).mono ?_
      rintro e w14 ⟨rfl, nw14, hww14⟩
      have bw14 := below_of_drewN hww14
      clear hww14
      replace h0 := h0.below bw14
      replace h1 := h1.below bw14
      replace h2 := h2.below bw14
      replace ha := ha.below bw14
      replace hb' := hb'.below bw14
      replace hb := below_trans hb bw14
      clear bw14
      rw [Q1.out]
      go_wp2_with fail
      refine (kle_any a0 Ab l0 b c0 cb _ h0 hb').mono ?_
      rintro e w15 ⟨rfl, nw15, hww15⟩
      have bw15 := below_of_drewN hww15
      clear hww15
      replace h0 := h0.below bw15
      replace h1 := h1.below bw15
      replace h2 := h2.below bw15
      replace ha := ha.below bw15
      replace hb := below_trans hb bw15
      clear bw15
      rw [Q2.out]
      go_wp2_with fail
      refine (kle_any a2 a0 l2 l0 c2 c0 _ h2 h0).mono ?_
      rintro e w16 ⟨rfl, nw16, hww16⟩
      have bw16 := below_of_drewN hww16
      clear hww16
      replace h0 := h0.below bw16
      replace h1 := h1.below bw16
      replace h2 := h2.below bw16
      replace ha := ha.below bw16
      replace hb := below_trans hb bw16
      clear bw16
      rw [P.out]
      go_wp2_with fail
      refine (kle_any a2 a1 l2 l1 c2 c1 _ h2 h1).mono ?_
      rintro e w17 ⟨rfl, nw17, hww17⟩
      have bw17 := below_of_drewN hww17
      clear hww17
      replace h2 := h2.below bw17
      replace ha := ha.below bw17
      replace hb := below_trans hb bw17
      clear bw17
      rw [Q.out]
      go_wp2_with fail
      refine (kle_any a2 Aa l2 a c2 ca _ h2 ha).mono ?_
      rintro e w18 ⟨rfl, nw18, hww18⟩
      have bw18 := below_of_drewN hww18
      clear hww18
      replace hb := below_trans hb bw18
      clear bw18
      rw [Q3.out]
      go_wp2
      go_ret
      exact ⟨rfl, hb⟩

end Go.Proofs.Ythjdabmlilnepaa
