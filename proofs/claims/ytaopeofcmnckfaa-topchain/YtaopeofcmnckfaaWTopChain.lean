
/-
  The walk of the law TopChain.
-/
import Derived.Test.YtaopeofcmnckfaaBoundK
namespace Go.Proofs.Ytaopeofcmnckfaa
set_option linter.all false
open Go.RowKit Go.Shelf


theorem begun_lit : Convs [0, 4] [1, 2] [1, 2] := ⟨cv_of (by decide), cv_of (by decide), rfl, by decide⟩

set_option maxHeartbeats 1600000 in
theorem begun_any (w : World) : Calls Try.prog 46 #[] w fun e w' => e = .returned (.bool true) ∧ Below w.heap.size w w' := by
  have hb : Below w.heap.size w w := Below.refl _ _
  go_enter Try.func46, Try.ntmps46
  go_wp2_with fail
  refine (conv_yes _ _ [0, 4] [1, 2] [1, 2] _ _ _ _ _ begun_lit (by decide) (by exact Ints.litA _ _ _ _ _ rfl (by decide)) (by exact Ints.litB _ _ _ _ _ rfl (by decide)) rfl rfl).mono ?_
  rintro e w1 ⟨Ax, cx, rfl, ox, bw1⟩
  replace bw1 := below_of2 bw1
  replace hb := below_trans hb bw1
  have hx := Ints.of_own ox
  clear bw1 ox
  go_wp2_with fail
  refine (equal_at Ax _ [1, 2] [1, 2] _ _ _ _ _ (by exact Ints.alloc hx _) (by exact Ints.lit _ _ _ _ rfl (by decide)) rfl rfl).mono ?_
  rintro e w2 ⟨rfl, nw2, hww2⟩
  have bw2 := below_of_drewN hww2
  clear hww2
  replace bw2 := below_of1 bw2
  replace hb := below_trans hb bw2
  clear bw2
  rw [eqB_true rfl]
  go_wp2
  go_ret
  exact ⟨rfl, hb⟩

/-- What conv.Of answers, of whatever lists. -/
structure CvIs (l m S : List Int) (E : Int) : Prop where
  s : S = resL (chk2 l m) (cvL l m)
  e : E = resE (chk2 l m) (cvL l m)
theorem ex_cvIs (l m : List Int) : ∃ S E, CvIs l m S E := ⟨_, _, rfl, rfl⟩
theorem CvIs.yes {l m S : List Int} (h : CvIs l m S 0) : Convs l m S ∧ Cv S := by
  have he := h.e
  unfold resE at he
  by_cases q : chk2 l m = 0
  · rw [if_neg (by simpa using q)] at he
    cases b : bigB (cvL l m)
    · obtain ⟨v0, v1, e⟩ := chk2_iff.1 q
      have hs := h.s
      rw [q, (res_ok b).2] at hs
      have z : Convs l m S := ⟨v0, v1, e, hs⟩
      exact ⟨z, z.curve (by rw [hs]; exact b)⟩
    · rw [(fit_big b).1] at he; omega
  · rw [if_pos q] at he; omega
theorem cvIs_any (A A' : Option Addr) (l m S : List Int) (E : Int) (c d : Nat) (w : World) (z : CvIs l m S E) (h : Ints w A l) (h' : Ints w A' m) :
    Calls Try.prog 40 #[.slice A l.length c, .slice A' m.length d] w (Ans S E w) := by
  have := conv_any A A' l m c d w h h'
  rw [← z.s, ← z.e] at this
  exact this
/-- What trace.Fits answers, of whatever lists. -/
theorem fitIs_any (A A' : Option Addr) (l m : List Int) (s : Bool) (E : Int) (c d : Nat) (w : World) (hE : E = chk2 l m) (hs : s = (decide (chk2 l m = 0) && fitB l m)) (h : Ints w A l) (h' : Ints w A' m) (hc : l.length ≤ c) :
    Calls Try.prog 24 #[.slice A l.length c, .slice A' m.length d] w fun e w' => e = .returned (.tuple #[.bool s, .int .i64 E]) ∧ Below w.heap.size w w' := by
  subst hE hs
  exact fits_any A A' l m c d w h h' hc

set_option maxRecDepth 100000 in
set_option maxHeartbeats 3200000 in
theorem walk_TopChain (a0 : Option Addr) (c0 : Nat) (l0 : List Int) (a1 : Option Addr) (c1 : Nat) (l1 : List Int) (a2 : Option Addr) (c2 : Nat) (l2 : List Int) (a3 : Option Addr) (c3 : Nat) (l3 : List Int) (w : World)
    (h0 : Ints w a0 l0) (k0 : l0.length ≤ c0) (h1 : Ints w a1 l1) (k1 : l1.length ≤ c1) (h2 : Ints w a2 l2) (k2 : l2.length ≤ c2) (h3 : Ints w a3 l3) (k3 : l3.length ≤ c3) :
    Calls Try.prog 15 #[.slice a0 l0.length c0, .slice a1 l1.length c1, .slice a2 l2.length c2, .slice a3 l3.length c3] w fun e w' => e = .returned (.bool true) ∧ Below w.heap.size w w' := by
  have hb : Below w.heap.size w w := Below.refl _ _
  by_cases q0 : chk l0 = 0
  · have t0 : (chk l0 != 0) = false := by simp [q0]
    have v0 := cv_of q0
    clear q0
    obtain ⟨s, hs⟩ : ∃ s, s = (decide (chk2 l0 l1 = 0) && fitB l0 l1) := ⟨_, rfl⟩
    obtain ⟨E, hE⟩ : ∃ E, E = chk2 l0 l1 := ⟨_, rfl⟩
    obtain ⟨d, e1, z1⟩ := ex_cvIs l0 l2
    obtain ⟨x, e2, z2⟩ := ex_cvIs d l3
    obtain ⟨o, e3, z3⟩ := ex_cvIs l2 l3
    obtain ⟨y, e4, z4⟩ := ex_cvIs l0 o
    by_cases g : E = 0 ∧ e1 = 0 ∧ e2 = 0 ∧ e3 = 0 ∧ e4 = 0
    · obtain ⟨rfl, rfl, rfl, rfl, rfl⟩ := g
      obtain ⟨_, v1, e01⟩ := chk2_iff.1 hE.symm
      obtain ⟨zd, vd⟩ := z1.yes
      obtain ⟨zx, vx⟩ := z2.yes
      obtain ⟨zo, vo⟩ := z3.yes
      obtain ⟨zy, vy⟩ := z4.yes
      have v2 := zd.two
      have v3 := zx.two
      have e02 := zd.len
      have ed := zd.rlen
      have exx := zx.rlen
      have eo := zo.rlen
      have zx' := conv_assoc zd zo vo zx
      have XY : Hid (x = y) := Lib.hid (by rw [zx'.is, zy.is])
      obtain ⟨m, zm⟩ := ex_dec v1 v2 (by omega)
      have vm := zm.r
      have em := zm.rlen
      have F0 := Lib.hid hE
      have Z1 := Lib.hid z1
      have Z2 := Lib.hid z2
      have Z3 := Lib.hid z3
      have Z4 := Lib.hid z4
      have EDM : Hid (d.length = m.length) := Lib.hid (by omega)
      have hp2 := v2.pos
      have i4 : (0 : Int) < (l2.length : Int) := by omega
      obtain ⟨g0, hg⟩ : ∃ g0, g0 = gt l2 0 := ⟨_, rfl⟩
      have HG := Lib.hid hg
      have Q1O := Lib.hid (chk2_iff.2 ⟨v1, vo, by omega⟩)
      have Q0X := Lib.hid (chk2_iff.2 ⟨v0, vx, by omega⟩)
      obtain ⟨n1, hn1⟩ : ∃ n1, n1 = backV l1 o := ⟨_, rfl⟩
      obtain ⟨n2, hn2⟩ : ∃ n2, n2 = backV l0 x := ⟨_, rfl⟩
      have N1 := Lib.hid hn1.symm
      have N2 := Lib.hid hn2.symm
      obtain ⟨D, DE, hD⟩ := ex_delIs l1 o
      obtain ⟨X, XE, hX⟩ := ex_delIs l0 x
      have D1 := Lib.hid hD
      have D2 := Lib.hid hX
      obtain ⟨u, hu⟩ : ∃ u, u = fitB d m := ⟨_, rfl⟩
      have U1 : Hid (Hid (fitB d m = u)) := Lib.hid (Lib.hid hu.symm)
      have hs' : s = fitB l0 l1 := by rw [hs, ← hE]; simp
      cases s
      · have S0 := Lib.hid hs
        clear hs hs' hE z1 z2 z3 z4 zd zx zo zy zx' e01 e02 ed exx eo em hg hn1 hn2 hD hX hu
        go_enter Try.func15, Try.ntmps15
        go_wp2_with fail
        refine (begun_any _).mono ?_
        rintro e w1 ⟨rfl, bw1⟩
        replace h0 := h0.below bw1
        replace h1 := h1.below bw1
        replace h2 := h2.below bw1
        replace h3 := h3.below bw1
        replace hb := below_trans hb bw1
        clear bw1
        go_wp2_with fail
        refine (check_any a0 l0 c0 _ h0).mono ?_
        rintro e w' ⟨rfl, rfl⟩
        go_wp2_with fail
        refine (fitIs_any a0 a1 l0 l1 false 0 c0 c1 _ F0.out S0.out h0 h1 k0).mono ?_
        rintro e w2 ⟨rfl, bw2⟩
        replace h0 := h0.below bw2
        replace h1 := h1.below bw2
        replace h2 := h2.below bw2
        replace h3 := h3.below bw2
        replace hb := below_trans hb bw2
        clear bw2
        go_wp2_with fail
        refine (cvIs_any a0 a2 l0 l2 d 0 c0 c2 _ Z1.out h0 h2).mono ?_
        rintro e w3 ⟨Ad, cd, rfl, od, bw3⟩
        replace h0 := h0.below bw3
        replace h1 := h1.below bw3
        replace h2 := h2.below bw3
        replace h3 := h3.below bw3
        replace hb := below_trans hb bw3
        have hd := Ints.of_own od
        have kd := own_cap od
        clear bw3 od
        go_wp2_with fail
        refine (cvIs_any Ad a3 d l3 x 0 cd c3 _ Z2.out hd h3).mono ?_
        rintro e w4 ⟨Ax, cx, rfl, ox, bw4⟩
        replace h0 := h0.below bw4
        replace h1 := h1.below bw4
        replace h2 := h2.below bw4
        replace h3 := h3.below bw4
        replace hd := hd.below bw4
        replace hb := below_trans hb bw4
        have hx := Ints.of_own ox
        have kx := own_cap ox
        clear bw4 ox
        go_wp2_with fail
        refine (cvIs_any a2 a3 l2 l3 o 0 c2 c3 _ Z3.out h2 h3).mono ?_
        rintro e w5 ⟨Ao, co, rfl, oo, bw5⟩
        replace h0 := h0.below bw5
        replace h1 := h1.below bw5
        replace h2 := h2.below bw5
        replace h3 := h3.below bw5
        replace hd := hd.below bw5
        replace hx := hx.below bw5
        replace hb := below_trans hb bw5
        have ho := Ints.of_own oo
        have ko := own_cap oo
        clear bw5 oo
        go_wp2_with fail
        refine (cvIs_any a0 Ao l0 o y 0 c0 co _ Z4.out h0 ho).mono ?_
        rintro e w6 ⟨Ay, cy, rfl, oy, bw6⟩
        replace h0 := h0.below bw6
        replace h1 := h1.below bw6
        replace h2 := h2.below bw6
        replace h3 := h3.below bw6
        replace hd := hd.below bw6
        replace hx := hx.below bw6
        replace ho := ho.below bw6
        replace hb := below_trans hb bw6
        have hy := Ints.of_own oy
        clear bw6 oy
        go_wp2_with fail
        refine (equal_at Ax Ay x y _ _ cx cy _ hx hy rfl rfl).mono ?_
        rintro e w7 ⟨rfl, nw7, hww7⟩
        have bw7 := below_of_drewN hww7
        clear hww7
        replace h0 := h0.below bw7
        replace h1 := h1.below bw7
        replace h2 := h2.below bw7
        replace h3 := h3.below bw7
        replace hd := hd.below bw7
        replace hx := hx.below bw7
        replace ho := ho.below bw7
        replace hb := below_trans hb bw7
        clear bw7
        rw [eqB_true XY.out]
        clear hy
        go_wp2_with fail
        refine (dec_ok a1 a2 l1 l2 m _ _ c1 c2 _ zm h1 h2 k1 rfl rfl).mono ?_
        rintro e w8 ⟨Am, cm, rfl, om, bw8⟩
        replace h0 := h0.below bw8
        replace h1 := h1.below bw8
        replace h2 := h2.below bw8
        replace h3 := h3.below bw8
        replace hd := hd.below bw8
        replace hx := hx.below bw8
        replace ho := ho.below bw8
        replace hb := below_trans hb bw8
        have hm := Ints.of_own om
        clear bw8 om
        go_wp2_with fail
        refine (fits_yes Ad Am d m _ _ cd cm u _ vd vm EDM.out U1.out hd hm kd rfl rfl).mono ?_
        rintro e w9 ⟨rfl, bw9⟩
        replace h0 := h0.below bw9
        replace h1 := h1.below bw9
        replace h2 := h2.below bw9
        replace h3 := h3.below bw9
        replace hx := hx.below bw9
        replace ho := ho.below bw9
        replace hb := below_trans hb bw9
        clear bw9
        obtain ⟨bq, oq, rfl, hcq⟩ := h2.first hp2
        rw [← HG.out] at hcq
        go_wp2_with fail
        refine (back_lits a1 Ao l1 o _ _ c1 co n1 _ Q1O.out N1 h1 ho rfl rfl).mono ?_
        rintro e w10 ⟨rfl, bw10⟩
        replace h0 := h0.below bw10
        replace h1 := h1.below bw10
        replace hx := hx.below bw10
        replace ho := ho.below bw10
        replace hb := below_trans hb bw10
        clear bw10
        go_wp2_with fail
        refine (back_lits a0 Ax l0 x _ _ c0 cx n2 _ Q0X.out N2 h0 hx rfl rfl).mono ?_
        rintro e w11 ⟨rfl, bw11⟩
        replace h0 := h0.below bw11
        replace h1 := h1.below bw11
        replace hx := hx.below bw11
        replace ho := ho.below bw11
        replace hb := below_trans hb bw11
        clear bw11
        go_wp2_with fail
        refine (delay_at a1 Ao l1 o _ _ c1 co D DE _ Q1O.out D1.out h1 ho k1 ko rfl rfl).mono ?_
        rintro e w12 ⟨rfl, nw12, hww12⟩
        have bw12 := below_of_drewN hww12
        clear hww12
        replace h0 := h0.below bw12
        replace h1 := h1.below bw12
        replace hx := hx.below bw12
        replace ho := ho.below bw12
        replace hb := below_trans hb bw12
        clear bw12
        go_wp2_with fail
        refine (delay_at a0 Ax l0 x _ _ c0 cx X XE _ Q0X.out D2.out h0 hx k0 kx rfl rfl).mono ?_
        rintro e w13 ⟨rfl, nw13, hww13⟩
        have bw13 := below_of_drewN hww13
        clear hww13
        replace hb := below_trans hb bw13
        clear bw13
        go_wp2
        go_ret
        exact ⟨rfl, hb⟩
      · have ft := (fitB_iff v0 v1 e01).1 hs'.symm
        have nn : n2 ≤ n1 := by rw [hn1, hn2]; exact cruz_back v0 ft zx' e01 (fun _ _ => Int.le_refl _)
        have S0 := Lib.hid hs
        by_cases q2 : g0 = 0
        · have t2 : (g0 == 0) = true := by simp [q2]
          have U2 : Hid (fitB d m = true) := Lib.hid ((fitB_iff vd vm EDM.out).2 (cruz_out ft zd e01 zm (by omega) (fun _ _ => Int.le_refl _) (fun t ht => by
            have := zd.le t 0 ht; rw [← hg, q2, Nat.add_zero] at this; omega)))
          rcases hD with ⟨D', iD, rfl, rfl⟩ | ⟨_, rfl, rfl⟩
          · have dl := cruz_delay v0 ft zx' e01 (fun _ _ => Int.le_refl _) iD.ok
            have lD := iD.lt
            rcases hX with ⟨X', iX, rfl, rfl⟩ | ⟨no, _, _⟩
            · have dx : (X' : Int) ≤ (D' : Int) := by have := iX.le dl; omega
              clear hs hs' hE z1 z2 z3 z4 zd zx zo zy zx' e01 e02 ed exx eo em hg hn1 hn2 hu q2 ft dl lD iD iX
              go_enter Try.func15, Try.ntmps15
              go_wp2_with fail
              refine (begun_any _).mono ?_
              rintro e w1 ⟨rfl, bw1⟩
              replace h0 := h0.below bw1
              replace h1 := h1.below bw1
              replace h2 := h2.below bw1
              replace h3 := h3.below bw1
              replace hb := below_trans hb bw1
              clear bw1
              go_wp2_with fail
              refine (check_any a0 l0 c0 _ h0).mono ?_
              rintro e w' ⟨rfl, rfl⟩
              go_wp2_with fail
              refine (fitIs_any a0 a1 l0 l1 true 0 c0 c1 _ F0.out S0.out h0 h1 k0).mono ?_
              rintro e w2 ⟨rfl, bw2⟩
              replace h0 := h0.below bw2
              replace h1 := h1.below bw2
              replace h2 := h2.below bw2
              replace h3 := h3.below bw2
              replace hb := below_trans hb bw2
              clear bw2
              go_wp2_with fail
              refine (cvIs_any a0 a2 l0 l2 d 0 c0 c2 _ Z1.out h0 h2).mono ?_
              rintro e w3 ⟨Ad, cd, rfl, od, bw3⟩
              replace h0 := h0.below bw3
              replace h1 := h1.below bw3
              replace h2 := h2.below bw3
              replace h3 := h3.below bw3
              replace hb := below_trans hb bw3
              have hd := Ints.of_own od
              have kd := own_cap od
              clear bw3 od
              go_wp2_with fail
              refine (cvIs_any Ad a3 d l3 x 0 cd c3 _ Z2.out hd h3).mono ?_
              rintro e w4 ⟨Ax, cx, rfl, ox, bw4⟩
              replace h0 := h0.below bw4
              replace h1 := h1.below bw4
              replace h2 := h2.below bw4
              replace h3 := h3.below bw4
              replace hd := hd.below bw4
              replace hb := below_trans hb bw4
              have hx := Ints.of_own ox
              have kx := own_cap ox
              clear bw4 ox
              go_wp2_with fail
              refine (cvIs_any a2 a3 l2 l3 o 0 c2 c3 _ Z3.out h2 h3).mono ?_
              rintro e w5 ⟨Ao, co, rfl, oo, bw5⟩
              replace h0 := h0.below bw5
              replace h1 := h1.below bw5
              replace h2 := h2.below bw5
              replace h3 := h3.below bw5
              replace hd := hd.below bw5
              replace hx := hx.below bw5
              replace hb := below_trans hb bw5
              have ho := Ints.of_own oo
              have ko := own_cap oo
              clear bw5 oo
              go_wp2_with fail
              refine (cvIs_any a0 Ao l0 o y 0 c0 co _ Z4.out h0 ho).mono ?_
              rintro e w6 ⟨Ay, cy, rfl, oy, bw6⟩
              replace h0 := h0.below bw6
              replace h1 := h1.below bw6
              replace h2 := h2.below bw6
              replace h3 := h3.below bw6
              replace hd := hd.below bw6
              replace hx := hx.below bw6
              replace ho := ho.below bw6
              replace hb := below_trans hb bw6
              have hy := Ints.of_own oy
              clear bw6 oy
              go_wp2_with fail
              refine (equal_at Ax Ay x y _ _ cx cy _ hx hy rfl rfl).mono ?_
              rintro e w7 ⟨rfl, nw7, hww7⟩
              have bw7 := below_of_drewN hww7
              clear hww7
              replace h0 := h0.below bw7
              replace h1 := h1.below bw7
              replace h2 := h2.below bw7
              replace h3 := h3.below bw7
              replace hd := hd.below bw7
              replace hx := hx.below bw7
              replace ho := ho.below bw7
              replace hb := below_trans hb bw7
              clear bw7
              rw [eqB_true XY.out]
              clear hy
              go_wp2_with fail
              refine (dec_ok a1 a2 l1 l2 m _ _ c1 c2 _ zm h1 h2 k1 rfl rfl).mono ?_
              rintro e w8 ⟨Am, cm, rfl, om, bw8⟩
              replace h0 := h0.below bw8
              replace h1 := h1.below bw8
              replace h2 := h2.below bw8
              replace h3 := h3.below bw8
              replace hd := hd.below bw8
              replace hx := hx.below bw8
              replace ho := ho.below bw8
              replace hb := below_trans hb bw8
              have hm := Ints.of_own om
              clear bw8 om
              go_wp2_with fail
              refine (fits_yes Ad Am d m _ _ cd cm true _ vd vm EDM.out U2 hd hm kd rfl rfl).mono ?_
              rintro e w9 ⟨rfl, bw9⟩
              replace h0 := h0.below bw9
              replace h1 := h1.below bw9
              replace h2 := h2.below bw9
              replace h3 := h3.below bw9
              replace hx := hx.below bw9
              replace ho := ho.below bw9
              replace hb := below_trans hb bw9
              clear bw9
              obtain ⟨bq, oq, rfl, hcq⟩ := h2.first hp2
              rw [← HG.out] at hcq
              go_wp2_with fail
              refine (back_lits a1 Ao l1 o _ _ c1 co n1 _ Q1O.out N1 h1 ho rfl rfl).mono ?_
              rintro e w10 ⟨rfl, bw10⟩
              replace h0 := h0.below bw10
              replace h1 := h1.below bw10
              replace hx := hx.below bw10
              replace ho := ho.below bw10
              replace hb := below_trans hb bw10
              clear bw10
              go_wp2_with fail
              refine (back_lits a0 Ax l0 x _ _ c0 cx n2 _ Q0X.out N2 h0 hx rfl rfl).mono ?_
              rintro e w11 ⟨rfl, bw11⟩
              replace h0 := h0.below bw11
              replace h1 := h1.below bw11
              replace hx := hx.below bw11
              replace ho := ho.below bw11
              replace hb := below_trans hb bw11
              clear bw11
              go_wp2_with fail
              refine (delay_at a1 Ao l1 o _ _ c1 co D' 0 _ Q1O.out D1.out h1 ho k1 ko rfl rfl).mono ?_
              rintro e w12 ⟨rfl, nw12, hww12⟩
              have bw12 := below_of_drewN hww12
              clear hww12
              replace h0 := h0.below bw12
              replace h1 := h1.below bw12
              replace hx := hx.below bw12
              replace ho := ho.below bw12
              replace hb := below_trans hb bw12
              clear bw12
              go_wp2_with fail
              refine (delay_at a0 Ax l0 x _ _ c0 cx X' 0 _ Q0X.out D2.out h0 hx k0 kx rfl rfl).mono ?_
              rintro e w13 ⟨rfl, nw13, hww13⟩
              have bw13 := below_of_drewN hww13
              clear hww13
              replace hb := below_trans hb bw13
              clear bw13
              go_wp2
              go_ret
              exact ⟨rfl, hb⟩
            · exact absurd dl (no D' (by omega))
          · clear hs hs' hE z1 z2 z3 z4 zd zx zo zy zx' e01 e02 ed exx eo em hg hn1 hn2 hX hu q2 ft
            go_enter Try.func15, Try.ntmps15
            go_wp2_with fail
            refine (begun_any _).mono ?_
            rintro e w1 ⟨rfl, bw1⟩
            replace h0 := h0.below bw1
            replace h1 := h1.below bw1
            replace h2 := h2.below bw1
            replace h3 := h3.below bw1
            replace hb := below_trans hb bw1
            clear bw1
            go_wp2_with fail
            refine (check_any a0 l0 c0 _ h0).mono ?_
            rintro e w' ⟨rfl, rfl⟩
            go_wp2_with fail
            refine (fitIs_any a0 a1 l0 l1 true 0 c0 c1 _ F0.out S0.out h0 h1 k0).mono ?_
            rintro e w2 ⟨rfl, bw2⟩
            replace h0 := h0.below bw2
            replace h1 := h1.below bw2
            replace h2 := h2.below bw2
            replace h3 := h3.below bw2
            replace hb := below_trans hb bw2
            clear bw2
            go_wp2_with fail
            refine (cvIs_any a0 a2 l0 l2 d 0 c0 c2 _ Z1.out h0 h2).mono ?_
            rintro e w3 ⟨Ad, cd, rfl, od, bw3⟩
            replace h0 := h0.below bw3
            replace h1 := h1.below bw3
            replace h2 := h2.below bw3
            replace h3 := h3.below bw3
            replace hb := below_trans hb bw3
            have hd := Ints.of_own od
            have kd := own_cap od
            clear bw3 od
            go_wp2_with fail
            refine (cvIs_any Ad a3 d l3 x 0 cd c3 _ Z2.out hd h3).mono ?_
            rintro e w4 ⟨Ax, cx, rfl, ox, bw4⟩
            replace h0 := h0.below bw4
            replace h1 := h1.below bw4
            replace h2 := h2.below bw4
            replace h3 := h3.below bw4
            replace hd := hd.below bw4
            replace hb := below_trans hb bw4
            have hx := Ints.of_own ox
            have kx := own_cap ox
            clear bw4 ox
            go_wp2_with fail
            refine (cvIs_any a2 a3 l2 l3 o 0 c2 c3 _ Z3.out h2 h3).mono ?_
            rintro e w5 ⟨Ao, co, rfl, oo, bw5⟩
            replace h0 := h0.below bw5
            replace h1 := h1.below bw5
            replace h2 := h2.below bw5
            replace h3 := h3.below bw5
            replace hd := hd.below bw5
            replace hx := hx.below bw5
            replace hb := below_trans hb bw5
            have ho := Ints.of_own oo
            have ko := own_cap oo
            clear bw5 oo
            go_wp2_with fail
            refine (cvIs_any a0 Ao l0 o y 0 c0 co _ Z4.out h0 ho).mono ?_
            rintro e w6 ⟨Ay, cy, rfl, oy, bw6⟩
            replace h0 := h0.below bw6
            replace h1 := h1.below bw6
            replace h2 := h2.below bw6
            replace h3 := h3.below bw6
            replace hd := hd.below bw6
            replace hx := hx.below bw6
            replace ho := ho.below bw6
            replace hb := below_trans hb bw6
            have hy := Ints.of_own oy
            clear bw6 oy
            go_wp2_with fail
            refine (equal_at Ax Ay x y _ _ cx cy _ hx hy rfl rfl).mono ?_
            rintro e w7 ⟨rfl, nw7, hww7⟩
            have bw7 := below_of_drewN hww7
            clear hww7
            replace h0 := h0.below bw7
            replace h1 := h1.below bw7
            replace h2 := h2.below bw7
            replace h3 := h3.below bw7
            replace hd := hd.below bw7
            replace hx := hx.below bw7
            replace ho := ho.below bw7
            replace hb := below_trans hb bw7
            clear bw7
            rw [eqB_true XY.out]
            clear hy
            go_wp2_with fail
            refine (dec_ok a1 a2 l1 l2 m _ _ c1 c2 _ zm h1 h2 k1 rfl rfl).mono ?_
            rintro e w8 ⟨Am, cm, rfl, om, bw8⟩
            replace h0 := h0.below bw8
            replace h1 := h1.below bw8
            replace h2 := h2.below bw8
            replace h3 := h3.below bw8
            replace hd := hd.below bw8
            replace hx := hx.below bw8
            replace ho := ho.below bw8
            replace hb := below_trans hb bw8
            have hm := Ints.of_own om
            clear bw8 om
            go_wp2_with fail
            refine (fits_yes Ad Am d m _ _ cd cm true _ vd vm EDM.out U2 hd hm kd rfl rfl).mono ?_
            rintro e w9 ⟨rfl, bw9⟩
            replace h0 := h0.below bw9
            replace h1 := h1.below bw9
            replace h2 := h2.below bw9
            replace h3 := h3.below bw9
            replace hx := hx.below bw9
            replace ho := ho.below bw9
            replace hb := below_trans hb bw9
            clear bw9
            obtain ⟨bq, oq, rfl, hcq⟩ := h2.first hp2
            rw [← HG.out] at hcq
            go_wp2_with fail
            refine (back_lits a1 Ao l1 o _ _ c1 co n1 _ Q1O.out N1 h1 ho rfl rfl).mono ?_
            rintro e w10 ⟨rfl, bw10⟩
            replace h0 := h0.below bw10
            replace h1 := h1.below bw10
            replace hx := hx.below bw10
            replace ho := ho.below bw10
            replace hb := below_trans hb bw10
            clear bw10
            go_wp2_with fail
            refine (back_lits a0 Ax l0 x _ _ c0 cx n2 _ Q0X.out N2 h0 hx rfl rfl).mono ?_
            rintro e w11 ⟨rfl, bw11⟩
            replace h0 := h0.below bw11
            replace h1 := h1.below bw11
            replace hx := hx.below bw11
            replace ho := ho.below bw11
            replace hb := below_trans hb bw11
            clear bw11
            go_wp2_with fail
            refine (delay_at a1 Ao l1 o _ _ c1 co 0 5 _ Q1O.out D1.out h1 ho k1 ko rfl rfl).mono ?_
            rintro e w12 ⟨rfl, nw12, hww12⟩
            have bw12 := below_of_drewN hww12
            clear hww12
            replace h0 := h0.below bw12
            replace h1 := h1.below bw12
            replace hx := hx.below bw12
            replace ho := ho.below bw12
            replace hb := below_trans hb bw12
            clear bw12
            go_wp2_with fail
            refine (delay_at a0 Ax l0 x _ _ c0 cx X XE _ Q0X.out D2.out h0 hx k0 kx rfl rfl).mono ?_
            rintro e w13 ⟨rfl, nw13, hww13⟩
            have bw13 := below_of_drewN hww13
            clear hww13
            replace hb := below_trans hb bw13
            clear bw13
            go_wp2
            go_ret
            exact ⟨rfl, hb⟩
        · have t2 : (g0 == 0) = false := by simp [q2]
          rcases hD with ⟨D', iD, rfl, rfl⟩ | ⟨_, rfl, rfl⟩
          · have dl := cruz_delay v0 ft zx' e01 (fun _ _ => Int.le_refl _) iD.ok
            have lD := iD.lt
            rcases hX with ⟨X', iX, rfl, rfl⟩ | ⟨no, _, _⟩
            · have dx : (X' : Int) ≤ (D' : Int) := by have := iX.le dl; omega
              clear hs hs' hE z1 z2 z3 z4 zd zx zo zy zx' e01 e02 ed exx eo em hg hn1 hn2 hu q2 ft dl lD iD iX
              go_enter Try.func15, Try.ntmps15
              go_wp2_with fail
              refine (begun_any _).mono ?_
              rintro e w1 ⟨rfl, bw1⟩
              replace h0 := h0.below bw1
              replace h1 := h1.below bw1
              replace h2 := h2.below bw1
              replace h3 := h3.below bw1
              replace hb := below_trans hb bw1
              clear bw1
              go_wp2_with fail
              refine (check_any a0 l0 c0 _ h0).mono ?_
              rintro e w' ⟨rfl, rfl⟩
              go_wp2_with fail
              refine (fitIs_any a0 a1 l0 l1 true 0 c0 c1 _ F0.out S0.out h0 h1 k0).mono ?_
              rintro e w2 ⟨rfl, bw2⟩
              replace h0 := h0.below bw2
              replace h1 := h1.below bw2
              replace h2 := h2.below bw2
              replace h3 := h3.below bw2
              replace hb := below_trans hb bw2
              clear bw2
              go_wp2_with fail
              refine (cvIs_any a0 a2 l0 l2 d 0 c0 c2 _ Z1.out h0 h2).mono ?_
              rintro e w3 ⟨Ad, cd, rfl, od, bw3⟩
              replace h0 := h0.below bw3
              replace h1 := h1.below bw3
              replace h2 := h2.below bw3
              replace h3 := h3.below bw3
              replace hb := below_trans hb bw3
              have hd := Ints.of_own od
              have kd := own_cap od
              clear bw3 od
              go_wp2_with fail
              refine (cvIs_any Ad a3 d l3 x 0 cd c3 _ Z2.out hd h3).mono ?_
              rintro e w4 ⟨Ax, cx, rfl, ox, bw4⟩
              replace h0 := h0.below bw4
              replace h1 := h1.below bw4
              replace h2 := h2.below bw4
              replace h3 := h3.below bw4
              replace hd := hd.below bw4
              replace hb := below_trans hb bw4
              have hx := Ints.of_own ox
              have kx := own_cap ox
              clear bw4 ox
              go_wp2_with fail
              refine (cvIs_any a2 a3 l2 l3 o 0 c2 c3 _ Z3.out h2 h3).mono ?_
              rintro e w5 ⟨Ao, co, rfl, oo, bw5⟩
              replace h0 := h0.below bw5
              replace h1 := h1.below bw5
              replace h2 := h2.below bw5
              replace h3 := h3.below bw5
              replace hd := hd.below bw5
              replace hx := hx.below bw5
              replace hb := below_trans hb bw5
              have ho := Ints.of_own oo
              have ko := own_cap oo
              clear bw5 oo
              go_wp2_with fail
              refine (cvIs_any a0 Ao l0 o y 0 c0 co _ Z4.out h0 ho).mono ?_
              rintro e w6 ⟨Ay, cy, rfl, oy, bw6⟩
              replace h0 := h0.below bw6
              replace h1 := h1.below bw6
              replace h2 := h2.below bw6
              replace h3 := h3.below bw6
              replace hd := hd.below bw6
              replace hx := hx.below bw6
              replace ho := ho.below bw6
              replace hb := below_trans hb bw6
              have hy := Ints.of_own oy
              clear bw6 oy
              go_wp2_with fail
              refine (equal_at Ax Ay x y _ _ cx cy _ hx hy rfl rfl).mono ?_
              rintro e w7 ⟨rfl, nw7, hww7⟩
              have bw7 := below_of_drewN hww7
              clear hww7
              replace h0 := h0.below bw7
              replace h1 := h1.below bw7
              replace h2 := h2.below bw7
              replace h3 := h3.below bw7
              replace hd := hd.below bw7
              replace hx := hx.below bw7
              replace ho := ho.below bw7
              replace hb := below_trans hb bw7
              clear bw7
              rw [eqB_true XY.out]
              clear hy
              go_wp2_with fail
              refine (dec_ok a1 a2 l1 l2 m _ _ c1 c2 _ zm h1 h2 k1 rfl rfl).mono ?_
              rintro e w8 ⟨Am, cm, rfl, om, bw8⟩
              replace h0 := h0.below bw8
              replace h1 := h1.below bw8
              replace h2 := h2.below bw8
              replace h3 := h3.below bw8
              replace hd := hd.below bw8
              replace hx := hx.below bw8
              replace ho := ho.below bw8
              replace hb := below_trans hb bw8
              have hm := Ints.of_own om
              clear bw8 om
              go_wp2_with fail
              refine (fits_yes Ad Am d m _ _ cd cm u _ vd vm EDM.out U1.out hd hm kd rfl rfl).mono ?_
              rintro e w9 ⟨rfl, bw9⟩
              replace h0 := h0.below bw9
              replace h1 := h1.below bw9
              replace h2 := h2.below bw9
              replace h3 := h3.below bw9
              replace hx := hx.below bw9
              replace ho := ho.below bw9
              replace hb := below_trans hb bw9
              clear bw9
              obtain ⟨bq, oq, rfl, hcq⟩ := h2.first hp2
              rw [← HG.out] at hcq
              go_wp2_with fail
              refine (back_lits a1 Ao l1 o _ _ c1 co n1 _ Q1O.out N1 h1 ho rfl rfl).mono ?_
              rintro e w10 ⟨rfl, bw10⟩
              replace h0 := h0.below bw10
              replace h1 := h1.below bw10
              replace hx := hx.below bw10
              replace ho := ho.below bw10
              replace hb := below_trans hb bw10
              clear bw10
              go_wp2_with fail
              refine (back_lits a0 Ax l0 x _ _ c0 cx n2 _ Q0X.out N2 h0 hx rfl rfl).mono ?_
              rintro e w11 ⟨rfl, bw11⟩
              replace h0 := h0.below bw11
              replace h1 := h1.below bw11
              replace hx := hx.below bw11
              replace ho := ho.below bw11
              replace hb := below_trans hb bw11
              clear bw11
              go_wp2_with fail
              refine (delay_at a1 Ao l1 o _ _ c1 co D' 0 _ Q1O.out D1.out h1 ho k1 ko rfl rfl).mono ?_
              rintro e w12 ⟨rfl, nw12, hww12⟩
              have bw12 := below_of_drewN hww12
              clear hww12
              replace h0 := h0.below bw12
              replace h1 := h1.below bw12
              replace hx := hx.below bw12
              replace ho := ho.below bw12
              replace hb := below_trans hb bw12
              clear bw12
              go_wp2_with fail
              refine (delay_at a0 Ax l0 x _ _ c0 cx X' 0 _ Q0X.out D2.out h0 hx k0 kx rfl rfl).mono ?_
              rintro e w13 ⟨rfl, nw13, hww13⟩
              have bw13 := below_of_drewN hww13
              clear hww13
              replace hb := below_trans hb bw13
              clear bw13
              go_wp2
              go_ret
              exact ⟨rfl, hb⟩
            · exact absurd dl (no D' (by omega))
          · clear hs hs' hE z1 z2 z3 z4 zd zx zo zy zx' e01 e02 ed exx eo em hg hn1 hn2 hX hu q2 ft
            go_enter Try.func15, Try.ntmps15
            go_wp2_with fail
            refine (begun_any _).mono ?_
            rintro e w1 ⟨rfl, bw1⟩
            replace h0 := h0.below bw1
            replace h1 := h1.below bw1
            replace h2 := h2.below bw1
            replace h3 := h3.below bw1
            replace hb := below_trans hb bw1
            clear bw1
            go_wp2_with fail
            refine (check_any a0 l0 c0 _ h0).mono ?_
            rintro e w' ⟨rfl, rfl⟩
            go_wp2_with fail
            refine (fitIs_any a0 a1 l0 l1 true 0 c0 c1 _ F0.out S0.out h0 h1 k0).mono ?_
            rintro e w2 ⟨rfl, bw2⟩
            replace h0 := h0.below bw2
            replace h1 := h1.below bw2
            replace h2 := h2.below bw2
            replace h3 := h3.below bw2
            replace hb := below_trans hb bw2
            clear bw2
            go_wp2_with fail
            refine (cvIs_any a0 a2 l0 l2 d 0 c0 c2 _ Z1.out h0 h2).mono ?_
            rintro e w3 ⟨Ad, cd, rfl, od, bw3⟩
            replace h0 := h0.below bw3
            replace h1 := h1.below bw3
            replace h2 := h2.below bw3
            replace h3 := h3.below bw3
            replace hb := below_trans hb bw3
            have hd := Ints.of_own od
            have kd := own_cap od
            clear bw3 od
            go_wp2_with fail
            refine (cvIs_any Ad a3 d l3 x 0 cd c3 _ Z2.out hd h3).mono ?_
            rintro e w4 ⟨Ax, cx, rfl, ox, bw4⟩
            replace h0 := h0.below bw4
            replace h1 := h1.below bw4
            replace h2 := h2.below bw4
            replace h3 := h3.below bw4
            replace hd := hd.below bw4
            replace hb := below_trans hb bw4
            have hx := Ints.of_own ox
            have kx := own_cap ox
            clear bw4 ox
            go_wp2_with fail
            refine (cvIs_any a2 a3 l2 l3 o 0 c2 c3 _ Z3.out h2 h3).mono ?_
            rintro e w5 ⟨Ao, co, rfl, oo, bw5⟩
            replace h0 := h0.below bw5
            replace h1 := h1.below bw5
            replace h2 := h2.below bw5
            replace h3 := h3.below bw5
            replace hd := hd.below bw5
            replace hx := hx.below bw5
            replace hb := below_trans hb bw5
            have ho := Ints.of_own oo
            have ko := own_cap oo
            clear bw5 oo
            go_wp2_with fail
            refine (cvIs_any a0 Ao l0 o y 0 c0 co _ Z4.out h0 ho).mono ?_
            rintro e w6 ⟨Ay, cy, rfl, oy, bw6⟩
            replace h0 := h0.below bw6
            replace h1 := h1.below bw6
            replace h2 := h2.below bw6
            replace h3 := h3.below bw6
            replace hd := hd.below bw6
            replace hx := hx.below bw6
            replace ho := ho.below bw6
            replace hb := below_trans hb bw6
            have hy := Ints.of_own oy
            clear bw6 oy
            go_wp2_with fail
            refine (equal_at Ax Ay x y _ _ cx cy _ hx hy rfl rfl).mono ?_
            rintro e w7 ⟨rfl, nw7, hww7⟩
            have bw7 := below_of_drewN hww7
            clear hww7
            replace h0 := h0.below bw7
            replace h1 := h1.below bw7
            replace h2 := h2.below bw7
            replace h3 := h3.below bw7
            replace hd := hd.below bw7
            replace hx := hx.below bw7
            replace ho := ho.below bw7
            replace hb := below_trans hb bw7
            clear bw7
            rw [eqB_true XY.out]
            clear hy
            go_wp2_with fail
            refine (dec_ok a1 a2 l1 l2 m _ _ c1 c2 _ zm h1 h2 k1 rfl rfl).mono ?_
            rintro e w8 ⟨Am, cm, rfl, om, bw8⟩
            replace h0 := h0.below bw8
            replace h1 := h1.below bw8
            replace h2 := h2.below bw8
            replace h3 := h3.below bw8
            replace hd := hd.below bw8
            replace hx := hx.below bw8
            replace ho := ho.below bw8
            replace hb := below_trans hb bw8
            have hm := Ints.of_own om
            clear bw8 om
            go_wp2_with fail
            refine (fits_yes Ad Am d m _ _ cd cm u _ vd vm EDM.out U1.out hd hm kd rfl rfl).mono ?_
            rintro e w9 ⟨rfl, bw9⟩
            replace h0 := h0.below bw9
            replace h1 := h1.below bw9
            replace h2 := h2.below bw9
            replace h3 := h3.below bw9
            replace hx := hx.below bw9
            replace ho := ho.below bw9
            replace hb := below_trans hb bw9
            clear bw9
            obtain ⟨bq, oq, rfl, hcq⟩ := h2.first hp2
            rw [← HG.out] at hcq
            go_wp2_with fail
            refine (back_lits a1 Ao l1 o _ _ c1 co n1 _ Q1O.out N1 h1 ho rfl rfl).mono ?_
            rintro e w10 ⟨rfl, bw10⟩
            replace h0 := h0.below bw10
            replace h1 := h1.below bw10
            replace hx := hx.below bw10
            replace ho := ho.below bw10
            replace hb := below_trans hb bw10
            clear bw10
            go_wp2_with fail
            refine (back_lits a0 Ax l0 x _ _ c0 cx n2 _ Q0X.out N2 h0 hx rfl rfl).mono ?_
            rintro e w11 ⟨rfl, bw11⟩
            replace h0 := h0.below bw11
            replace h1 := h1.below bw11
            replace hx := hx.below bw11
            replace ho := ho.below bw11
            replace hb := below_trans hb bw11
            clear bw11
            go_wp2_with fail
            refine (delay_at a1 Ao l1 o _ _ c1 co 0 5 _ Q1O.out D1.out h1 ho k1 ko rfl rfl).mono ?_
            rintro e w12 ⟨rfl, nw12, hww12⟩
            have bw12 := below_of_drewN hww12
            clear hww12
            replace h0 := h0.below bw12
            replace h1 := h1.below bw12
            replace hx := hx.below bw12
            replace ho := ho.below bw12
            replace hb := below_trans hb bw12
            clear bw12
            go_wp2_with fail
            refine (delay_at a0 Ax l0 x _ _ c0 cx X XE _ Q0X.out D2.out h0 hx k0 kx rfl rfl).mono ?_
            rintro e w13 ⟨rfl, nw13, hww13⟩
            have bw13 := below_of_drewN hww13
            clear hww13
            replace hb := below_trans hb bw13
            clear bw13
            go_wp2
            go_ret
            exact ⟨rfl, hb⟩
    · have F0 := Lib.hid hE
      have S0 := Lib.hid hs
      have Z1 := Lib.hid z1
      have Z2 := Lib.hid z2
      have Z3 := Lib.hid z3
      have Z4 := Lib.hid z4
      have C0 := Lib.hid g
      clear hE hs z1 z2 z3 z4 g
      by_cases g0 : E = 0
      · have u0 : (E != 0) = false := by simp [g0]
        have G0 := Lib.hid g0
        clear g0
        by_cases g1 : e1 = 0
        · have u1 : (e1 != 0) = false := by simp [g1]
          have G1 := Lib.hid g1
          clear g1
          by_cases g2 : e2 = 0
          · have u2 : (e2 != 0) = false := by simp [g2]
            have G2 := Lib.hid g2
            clear g2
            by_cases g3 : e3 = 0
            · have u3 : (e3 != 0) = false := by simp [g3]
              have u4 : (e4 != 0) = true := by
                have := C0.out; have := G0.out; have := G1.out; have := G2.out
                simp; intro q; simp_all
              clear g3
              clear C0
              go_enter Try.func15, Try.ntmps15
              go_wp2_with fail
              refine (begun_any _).mono ?_
              rintro e w1 ⟨rfl, bw1⟩
              replace h0 := h0.below bw1
              replace h1 := h1.below bw1
              replace h2 := h2.below bw1
              replace h3 := h3.below bw1
              replace hb := below_trans hb bw1
              clear bw1
              go_wp2_with fail
              refine (check_any a0 l0 c0 _ h0).mono ?_
              rintro e w' ⟨rfl, rfl⟩
              go_wp2_with fail
              refine (fitIs_any a0 a1 l0 l1 s E c0 c1 _ F0.out S0.out h0 h1 k0).mono ?_
              rintro e w2 ⟨rfl, bw2⟩
              replace h0 := h0.below bw2
              replace h1 := h1.below bw2
              replace h2 := h2.below bw2
              replace h3 := h3.below bw2
              replace hb := below_trans hb bw2
              clear bw2
              go_wp2_with fail
              refine (cvIs_any a0 a2 l0 l2 d e1 c0 c2 _ Z1.out h0 h2).mono ?_
              rintro e w3 ⟨Ad, cd, rfl, od, bw3⟩
              replace h0 := h0.below bw3
              replace h1 := h1.below bw3
              replace h2 := h2.below bw3
              replace h3 := h3.below bw3
              replace hb := below_trans hb bw3
              have hd := Ints.of_own od
              have kd := own_cap od
              clear bw3 od
              go_wp2_with fail
              refine (cvIs_any Ad a3 d l3 x e2 cd c3 _ Z2.out hd h3).mono ?_
              rintro e w4 ⟨Ax, cx, rfl, ox, bw4⟩
              replace h0 := h0.below bw4
              replace h1 := h1.below bw4
              replace h2 := h2.below bw4
              replace h3 := h3.below bw4
              replace hd := hd.below bw4
              replace hb := below_trans hb bw4
              have hx := Ints.of_own ox
              have kx := own_cap ox
              clear bw4 ox
              go_wp2_with fail
              refine (cvIs_any a2 a3 l2 l3 o e3 c2 c3 _ Z3.out h2 h3).mono ?_
              rintro e w5 ⟨Ao, co, rfl, oo, bw5⟩
              replace h0 := h0.below bw5
              replace h1 := h1.below bw5
              replace h2 := h2.below bw5
              replace h3 := h3.below bw5
              replace hd := hd.below bw5
              replace hx := hx.below bw5
              replace hb := below_trans hb bw5
              have ho := Ints.of_own oo
              have ko := own_cap oo
              clear bw5 oo
              go_wp2_with fail
              refine (cvIs_any a0 Ao l0 o y e4 c0 co _ Z4.out h0 ho).mono ?_
              rintro e w6 ⟨Ay, cy, rfl, oy, bw6⟩
              replace h0 := h0.below bw6
              replace h1 := h1.below bw6
              replace h2 := h2.below bw6
              replace h3 := h3.below bw6
              replace hd := hd.below bw6
              replace hx := hx.below bw6
              replace ho := ho.below bw6
              replace hb := below_trans hb bw6
              have hy := Ints.of_own oy
              clear bw6 oy
              go_wp2
              go_ret
              exact ⟨rfl, hb⟩
            · have u3 : (e3 != 0) = true := by simp [g3]
              clear g3
              clear C0
              go_enter Try.func15, Try.ntmps15
              go_wp2_with fail
              refine (begun_any _).mono ?_
              rintro e w1 ⟨rfl, bw1⟩
              replace h0 := h0.below bw1
              replace h1 := h1.below bw1
              replace h2 := h2.below bw1
              replace h3 := h3.below bw1
              replace hb := below_trans hb bw1
              clear bw1
              go_wp2_with fail
              refine (check_any a0 l0 c0 _ h0).mono ?_
              rintro e w' ⟨rfl, rfl⟩
              go_wp2_with fail
              refine (fitIs_any a0 a1 l0 l1 s E c0 c1 _ F0.out S0.out h0 h1 k0).mono ?_
              rintro e w2 ⟨rfl, bw2⟩
              replace h0 := h0.below bw2
              replace h1 := h1.below bw2
              replace h2 := h2.below bw2
              replace h3 := h3.below bw2
              replace hb := below_trans hb bw2
              clear bw2
              go_wp2_with fail
              refine (cvIs_any a0 a2 l0 l2 d e1 c0 c2 _ Z1.out h0 h2).mono ?_
              rintro e w3 ⟨Ad, cd, rfl, od, bw3⟩
              replace h0 := h0.below bw3
              replace h1 := h1.below bw3
              replace h2 := h2.below bw3
              replace h3 := h3.below bw3
              replace hb := below_trans hb bw3
              have hd := Ints.of_own od
              have kd := own_cap od
              clear bw3 od
              go_wp2_with fail
              refine (cvIs_any Ad a3 d l3 x e2 cd c3 _ Z2.out hd h3).mono ?_
              rintro e w4 ⟨Ax, cx, rfl, ox, bw4⟩
              replace h0 := h0.below bw4
              replace h1 := h1.below bw4
              replace h2 := h2.below bw4
              replace h3 := h3.below bw4
              replace hd := hd.below bw4
              replace hb := below_trans hb bw4
              have hx := Ints.of_own ox
              have kx := own_cap ox
              clear bw4 ox
              go_wp2_with fail
              refine (cvIs_any a2 a3 l2 l3 o e3 c2 c3 _ Z3.out h2 h3).mono ?_
              rintro e w5 ⟨Ao, co, rfl, oo, bw5⟩
              replace h0 := h0.below bw5
              replace h1 := h1.below bw5
              replace h2 := h2.below bw5
              replace h3 := h3.below bw5
              replace hd := hd.below bw5
              replace hx := hx.below bw5
              replace hb := below_trans hb bw5
              have ho := Ints.of_own oo
              have ko := own_cap oo
              clear bw5 oo
              go_wp2_with fail
              refine (cvIs_any a0 Ao l0 o y e4 c0 co _ Z4.out h0 ho).mono ?_
              rintro e w6 ⟨Ay, cy, rfl, oy, bw6⟩
              replace h0 := h0.below bw6
              replace h1 := h1.below bw6
              replace h2 := h2.below bw6
              replace h3 := h3.below bw6
              replace hd := hd.below bw6
              replace hx := hx.below bw6
              replace ho := ho.below bw6
              replace hb := below_trans hb bw6
              have hy := Ints.of_own oy
              clear bw6 oy
              go_wp2
              go_ret
              exact ⟨rfl, hb⟩
          · have u2 : (e2 != 0) = true := by simp [g2]
            clear g2
            clear C0
            go_enter Try.func15, Try.ntmps15
            go_wp2_with fail
            refine (begun_any _).mono ?_
            rintro e w1 ⟨rfl, bw1⟩
            replace h0 := h0.below bw1
            replace h1 := h1.below bw1
            replace h2 := h2.below bw1
            replace h3 := h3.below bw1
            replace hb := below_trans hb bw1
            clear bw1
            go_wp2_with fail
            refine (check_any a0 l0 c0 _ h0).mono ?_
            rintro e w' ⟨rfl, rfl⟩
            go_wp2_with fail
            refine (fitIs_any a0 a1 l0 l1 s E c0 c1 _ F0.out S0.out h0 h1 k0).mono ?_
            rintro e w2 ⟨rfl, bw2⟩
            replace h0 := h0.below bw2
            replace h1 := h1.below bw2
            replace h2 := h2.below bw2
            replace h3 := h3.below bw2
            replace hb := below_trans hb bw2
            clear bw2
            go_wp2_with fail
            refine (cvIs_any a0 a2 l0 l2 d e1 c0 c2 _ Z1.out h0 h2).mono ?_
            rintro e w3 ⟨Ad, cd, rfl, od, bw3⟩
            replace h0 := h0.below bw3
            replace h1 := h1.below bw3
            replace h2 := h2.below bw3
            replace h3 := h3.below bw3
            replace hb := below_trans hb bw3
            have hd := Ints.of_own od
            have kd := own_cap od
            clear bw3 od
            go_wp2_with fail
            refine (cvIs_any Ad a3 d l3 x e2 cd c3 _ Z2.out hd h3).mono ?_
            rintro e w4 ⟨Ax, cx, rfl, ox, bw4⟩
            replace h0 := h0.below bw4
            replace h1 := h1.below bw4
            replace h2 := h2.below bw4
            replace h3 := h3.below bw4
            replace hd := hd.below bw4
            replace hb := below_trans hb bw4
            have hx := Ints.of_own ox
            have kx := own_cap ox
            clear bw4 ox
            go_wp2_with fail
            refine (cvIs_any a2 a3 l2 l3 o e3 c2 c3 _ Z3.out h2 h3).mono ?_
            rintro e w5 ⟨Ao, co, rfl, oo, bw5⟩
            replace h0 := h0.below bw5
            replace h1 := h1.below bw5
            replace h2 := h2.below bw5
            replace h3 := h3.below bw5
            replace hd := hd.below bw5
            replace hx := hx.below bw5
            replace hb := below_trans hb bw5
            have ho := Ints.of_own oo
            have ko := own_cap oo
            clear bw5 oo
            go_wp2_with fail
            refine (cvIs_any a0 Ao l0 o y e4 c0 co _ Z4.out h0 ho).mono ?_
            rintro e w6 ⟨Ay, cy, rfl, oy, bw6⟩
            replace h0 := h0.below bw6
            replace h1 := h1.below bw6
            replace h2 := h2.below bw6
            replace h3 := h3.below bw6
            replace hd := hd.below bw6
            replace hx := hx.below bw6
            replace ho := ho.below bw6
            replace hb := below_trans hb bw6
            have hy := Ints.of_own oy
            clear bw6 oy
            go_wp2
            go_ret
            exact ⟨rfl, hb⟩
        · have u1 : (e1 != 0) = true := by simp [g1]
          clear g1
          clear C0
          go_enter Try.func15, Try.ntmps15
          go_wp2_with fail
          refine (begun_any _).mono ?_
          rintro e w1 ⟨rfl, bw1⟩
          replace h0 := h0.below bw1
          replace h1 := h1.below bw1
          replace h2 := h2.below bw1
          replace h3 := h3.below bw1
          replace hb := below_trans hb bw1
          clear bw1
          go_wp2_with fail
          refine (check_any a0 l0 c0 _ h0).mono ?_
          rintro e w' ⟨rfl, rfl⟩
          go_wp2_with fail
          refine (fitIs_any a0 a1 l0 l1 s E c0 c1 _ F0.out S0.out h0 h1 k0).mono ?_
          rintro e w2 ⟨rfl, bw2⟩
          replace h0 := h0.below bw2
          replace h1 := h1.below bw2
          replace h2 := h2.below bw2
          replace h3 := h3.below bw2
          replace hb := below_trans hb bw2
          clear bw2
          go_wp2_with fail
          refine (cvIs_any a0 a2 l0 l2 d e1 c0 c2 _ Z1.out h0 h2).mono ?_
          rintro e w3 ⟨Ad, cd, rfl, od, bw3⟩
          replace h0 := h0.below bw3
          replace h1 := h1.below bw3
          replace h2 := h2.below bw3
          replace h3 := h3.below bw3
          replace hb := below_trans hb bw3
          have hd := Ints.of_own od
          have kd := own_cap od
          clear bw3 od
          go_wp2_with fail
          refine (cvIs_any Ad a3 d l3 x e2 cd c3 _ Z2.out hd h3).mono ?_
          rintro e w4 ⟨Ax, cx, rfl, ox, bw4⟩
          replace h0 := h0.below bw4
          replace h1 := h1.below bw4
          replace h2 := h2.below bw4
          replace h3 := h3.below bw4
          replace hd := hd.below bw4
          replace hb := below_trans hb bw4
          have hx := Ints.of_own ox
          have kx := own_cap ox
          clear bw4 ox
          go_wp2_with fail
          refine (cvIs_any a2 a3 l2 l3 o e3 c2 c3 _ Z3.out h2 h3).mono ?_
          rintro e w5 ⟨Ao, co, rfl, oo, bw5⟩
          replace h0 := h0.below bw5
          replace h1 := h1.below bw5
          replace h2 := h2.below bw5
          replace h3 := h3.below bw5
          replace hd := hd.below bw5
          replace hx := hx.below bw5
          replace hb := below_trans hb bw5
          have ho := Ints.of_own oo
          have ko := own_cap oo
          clear bw5 oo
          go_wp2_with fail
          refine (cvIs_any a0 Ao l0 o y e4 c0 co _ Z4.out h0 ho).mono ?_
          rintro e w6 ⟨Ay, cy, rfl, oy, bw6⟩
          replace h0 := h0.below bw6
          replace h1 := h1.below bw6
          replace h2 := h2.below bw6
          replace h3 := h3.below bw6
          replace hd := hd.below bw6
          replace hx := hx.below bw6
          replace ho := ho.below bw6
          replace hb := below_trans hb bw6
          have hy := Ints.of_own oy
          clear bw6 oy
          go_wp2
          go_ret
          exact ⟨rfl, hb⟩
      · have u0 : (E != 0) = true := by simp [g0]
        clear g0
        clear C0
        go_enter Try.func15, Try.ntmps15
        go_wp2_with fail
        refine (begun_any _).mono ?_
        rintro e w1 ⟨rfl, bw1⟩
        replace h0 := h0.below bw1
        replace h1 := h1.below bw1
        replace h2 := h2.below bw1
        replace h3 := h3.below bw1
        replace hb := below_trans hb bw1
        clear bw1
        go_wp2_with fail
        refine (check_any a0 l0 c0 _ h0).mono ?_
        rintro e w' ⟨rfl, rfl⟩
        go_wp2_with fail
        refine (fitIs_any a0 a1 l0 l1 s E c0 c1 _ F0.out S0.out h0 h1 k0).mono ?_
        rintro e w2 ⟨rfl, bw2⟩
        replace h0 := h0.below bw2
        replace h1 := h1.below bw2
        replace h2 := h2.below bw2
        replace h3 := h3.below bw2
        replace hb := below_trans hb bw2
        clear bw2
        go_wp2_with fail
        refine (cvIs_any a0 a2 l0 l2 d e1 c0 c2 _ Z1.out h0 h2).mono ?_
        rintro e w3 ⟨Ad, cd, rfl, od, bw3⟩
        replace h0 := h0.below bw3
        replace h1 := h1.below bw3
        replace h2 := h2.below bw3
        replace h3 := h3.below bw3
        replace hb := below_trans hb bw3
        have hd := Ints.of_own od
        have kd := own_cap od
        clear bw3 od
        go_wp2_with fail
        refine (cvIs_any Ad a3 d l3 x e2 cd c3 _ Z2.out hd h3).mono ?_
        rintro e w4 ⟨Ax, cx, rfl, ox, bw4⟩
        replace h0 := h0.below bw4
        replace h1 := h1.below bw4
        replace h2 := h2.below bw4
        replace h3 := h3.below bw4
        replace hd := hd.below bw4
        replace hb := below_trans hb bw4
        have hx := Ints.of_own ox
        have kx := own_cap ox
        clear bw4 ox
        go_wp2_with fail
        refine (cvIs_any a2 a3 l2 l3 o e3 c2 c3 _ Z3.out h2 h3).mono ?_
        rintro e w5 ⟨Ao, co, rfl, oo, bw5⟩
        replace h0 := h0.below bw5
        replace h1 := h1.below bw5
        replace h2 := h2.below bw5
        replace h3 := h3.below bw5
        replace hd := hd.below bw5
        replace hx := hx.below bw5
        replace hb := below_trans hb bw5
        have ho := Ints.of_own oo
        have ko := own_cap oo
        clear bw5 oo
        go_wp2_with fail
        refine (cvIs_any a0 Ao l0 o y e4 c0 co _ Z4.out h0 ho).mono ?_
        rintro e w6 ⟨Ay, cy, rfl, oy, bw6⟩
        replace h0 := h0.below bw6
        replace h1 := h1.below bw6
        replace h2 := h2.below bw6
        replace h3 := h3.below bw6
        replace hd := hd.below bw6
        replace hx := hx.below bw6
        replace ho := ho.below bw6
        replace hb := below_trans hb bw6
        have hy := Ints.of_own oy
        clear bw6 oy
        go_wp2
        go_ret
        exact ⟨rfl, hb⟩
  · have t0 : (chk l0 != 0) = true := by simp [q0]
    clear q0
    go_enter Try.func15, Try.ntmps15
    go_wp2_with fail
    refine (begun_any _).mono ?_
    rintro e w1 ⟨rfl, bw1⟩
    replace h0 := h0.below bw1
    replace h1 := h1.below bw1
    replace h2 := h2.below bw1
    replace h3 := h3.below bw1
    replace hb := below_trans hb bw1
    clear bw1
    go_wp2_with fail
    refine (check_any a0 l0 c0 _ h0).mono ?_
    rintro e w' ⟨rfl, rfl⟩
    go_wp2_with fail
    refine (begun_any _).mono ?_
    rintro e w2 ⟨rfl, bw2⟩
    replace hb := below_trans hb bw2
    clear bw2
    go_wp2
    go_ret
    exact ⟨rfl, hb⟩

end Go.Proofs.Ytaopeofcmnckfaa
