
/-
  The walk of the law PointSums.
-/
import Derived.Test.YthjdabmlilnepaaPointL
namespace Go.Proofs.Ythjdabmlilnepaa
set_option linter.all false
open Go.RowKit

theorem sum_lit : Sums [0, 3] [1, 2] [1, 5] := by
  refine ⟨cv_of (by decide), cv_of (by decide), rfl, rfl, fun t ht => ?_⟩
  match t, ht with
  | 0, _ => rfl
  | 1, _ => rfl

/-- A sum goes over Min. -/
theorem sum_min {f g h a k m x : List Int} (za : Sums f g a) (zk : Sums f h k) (zm : Zips min g h m) (zx : Sums f m x) (ba : bigB a = false) (bk : bigB k = false) : Zips min a k x ∧ bigB x = false := by
  have e1 := za.len; have e2 := za.rlen; have e3 := zk.len; have e4 := zk.rlen; have e5 := zm.len; have e6 := zm.rlen; have e7 := zx.len; have e8 := zx.rlen
  have hv : ∀ t, t < f.length → gt x t = min (gt a t) (gt k t) := fun t ht => by
    rw [zx.val t ht, za.val t ht, zk.val t ht, zm.val t (by omega)]; omega
  have hb : bigB x = false := bigB_no.2 (fun t ht => by rw [hv t (by omega)]; have := bigB_no.1 ba t (by omega); omega)
  exact ⟨⟨za.curve ba, zk.curve bk, by omega, by omega, zx.curve hb, fun t ht => hv t (by omega)⟩, hb⟩

/-- To go up twice is to go up by both. -/
theorem up_twice {f p q : List Int} {m n : Int} (z : Ups f m p) (z' : Ups p n q) (h : m + n ≤ 1000000) : Ups f (m + n) q := by
  have e1 := z.rlen; have e2 := z'.rlen; have a1 := z.n0; have a2 := z'.n0
  exact ⟨z.one, by omega, h, by omega, fun t ht => by rw [z'.val t (by omega), z.val t ht]; omega⟩

set_option maxHeartbeats 3200000 in
theorem walk_PointSums (a0 : Option Addr) (c0 : Nat) (l0 : List Int) (a1 : Option Addr) (c1 : Nat) (l1 : List Int) (a2 : Option Addr) (c2 : Nat) (l2 : List Int) (m n : Int) (w : World)
    (h0 : Ints w a0 l0) (_k0 : l0.length ≤ c0) (h1 : Ints w a1 l1) (_k1 : l1.length ≤ c1) (h2 : Ints w a2 l2) (_k2 : l2.length ≤ c2) (_hm : (Lit.int .i64 m).wf = true) (_hn : (Lit.int .i64 n).wf = true) :
    Calls Try.prog 7 #[.slice a0 l0.length c0, .slice a1 l1.length c1, .slice a2 l2.length c2, .int .i64 m, .int .i64 n] w fun e w' => e = .returned (.bool true) ∧ Below w.heap.size w w' := by
  have hb : Below w.heap.size w w := Below.refl _ _
  have X1 : Hid (fitE [1, 5] = 0) := Lib.hid (by decide)
  have X2 : Hid (fitL [1, 5] = [1, 5]) := Lib.hid (by decide)
  cases t1 : okB l0 l1
  · have T1 := Lib.hid t1
    clear t1
    go_enter Try.func7, Try.ntmps7
    go_wp2_with fail
    refine (sum_ok _ _ [0, 3] [1, 2] [1, 5] _ _ _ _ _ sum_lit (by exact Ints.litA _ _ _ _ _ rfl (by decide)) (by exact Ints.litB _ _ _ _ _ rfl (by decide)) rfl rfl).mono ?_
    rintro e w1 ⟨Ax, cx, rfl, ox, bw1⟩
    replace bw1 := below_of2 bw1
    replace h0 := h0.below bw1
    replace h1 := h1.below bw1
    replace h2 := h2.below bw1
    replace hb := below_trans hb bw1
    have hx := Ints.of_own ox
    clear bw1 ox
    rw [X1.out, X2.out]
    rw [X2.out] at hx
    go_wp2_with fail
    refine (equal_at Ax _ [1, 5] [1, 5] _ _ _ _ _ (by exact Ints.alloc hx _) (by exact Ints.lit _ _ _ _ rfl (by decide)) rfl rfl).mono ?_
    rintro e w2 ⟨rfl, nw2, hww2⟩
    have bw2 := below_of_drewN hww2
    clear hww2
    replace bw2 := below_of1 bw2
    replace h0 := h0.below bw2
    replace h1 := h1.below bw2
    replace h2 := h2.below bw2
    replace hb := below_trans hb bw2
    clear bw2
    rw [eqB_true rfl]
    clear hx
    go_wp2_with fail
    refine (three_any a0 a1 a2 l0 l1 l2 c0 c1 c2 _ h0 h1 h2).mono ?_
    rintro e w' ⟨rfl, rfl⟩
    rw [T1.out]
    go_wp2
    go_ret
    exact ⟨rfl, hb⟩
  cases t2 : okB l1 l2
  · have T1 := Lib.hid t1
    have T2 := Lib.hid t2
    clear t1 t2
    go_enter Try.func7, Try.ntmps7
    go_wp2_with fail
    refine (sum_ok _ _ [0, 3] [1, 2] [1, 5] _ _ _ _ _ sum_lit (by exact Ints.litA _ _ _ _ _ rfl (by decide)) (by exact Ints.litB _ _ _ _ _ rfl (by decide)) rfl rfl).mono ?_
    rintro e w1 ⟨Ax, cx, rfl, ox, bw1⟩
    replace bw1 := below_of2 bw1
    replace h0 := h0.below bw1
    replace h1 := h1.below bw1
    replace h2 := h2.below bw1
    replace hb := below_trans hb bw1
    have hx := Ints.of_own ox
    clear bw1 ox
    rw [X1.out, X2.out]
    rw [X2.out] at hx
    go_wp2_with fail
    refine (equal_at Ax _ [1, 5] [1, 5] _ _ _ _ _ (by exact Ints.alloc hx _) (by exact Ints.lit _ _ _ _ rfl (by decide)) rfl rfl).mono ?_
    rintro e w2 ⟨rfl, nw2, hww2⟩
    have bw2 := below_of_drewN hww2
    clear hww2
    replace bw2 := below_of1 bw2
    replace h0 := h0.below bw2
    replace h1 := h1.below bw2
    replace h2 := h2.below bw2
    replace hb := below_trans hb bw2
    clear bw2
    rw [eqB_true rfl]
    clear hx
    go_wp2_with fail
    refine (three_any a0 a1 a2 l0 l1 l2 c0 c1 c2 _ h0 h1 h2).mono ?_
    rintro e w' ⟨rfl, rfl⟩
    rw [T1.out, T2.out]
    go_wp2
    go_ret
    exact ⟨rfl, hb⟩
  obtain ⟨v0, v1, e1⟩ := chk2_iff.1 (chk2_of_okB t1)
  obtain ⟨_, v2, e2⟩ := chk2_iff.1 (chk2_of_okB t2)
  obtain ⟨M, hM⟩ : ∃ M, M = wi m 1000 := ⟨_, rfl⟩
  obtain ⟨N, hN⟩ : ∃ N, N = wi n 1000 := ⟨_, rfl⟩
  have m0 : 0 ≤ M := by rw [hM]; exact wi_nonneg _ _ (by decide)
  have n0 : 0 ≤ N := by rw [hN]; exact wi_nonneg _ _ (by decide)
  have m1 : M < 1000 := by rw [hM]; exact wi_lt _ _ (by decide)
  have n1 : N < 1000 := by rw [hN]; exact wi_lt _ _ (by decide)
  have HM := Lib.hid hM
  have HN := Lib.hid hN
  clear hM hN
  obtain ⟨a, za⟩ := ex_sum v0 v1 e1
  obtain ⟨k, zk⟩ := ex_sum v0 v2 (by omega)
  obtain ⟨mm, zm⟩ := ex_min v1 v2 e2
  have em := zm.rlen
  obtain ⟨x, zx⟩ := ex_sum v0 zm.r (by omega)
  obtain ⟨p, zp⟩ := ex_up v0 m0 (by omega)
  have T1 := Lib.hid t1
  have T2 := Lib.hid t2
  clear t1 t2 e1 e2 em
  cases ba : bigB a
  all_goals cases bk : bigB k
  · obtain ⟨f1, f2⟩ := fit_ok ba
    obtain ⟨g1, g2⟩ := fit_ok bk
    obtain ⟨zy, bx⟩ := sum_min za zk zm zx ba bk
    obtain ⟨y1, y2⟩ := fit_ok bx
    have Y1 := Lib.hid y1
    have Y2 := Lib.hid y2
    clear bx y1 y2
    have F1 := Lib.hid f1
    have F2 := Lib.hid f2
    have K1 := Lib.hid g1
    have K2 := Lib.hid g2
    clear f1 f2 g1 g2 ba bk
    go_enter Try.func7, Try.ntmps7
    go_wp2_with fail
    refine (sum_ok _ _ [0, 3] [1, 2] [1, 5] _ _ _ _ _ sum_lit (by exact Ints.litA _ _ _ _ _ rfl (by decide)) (by exact Ints.litB _ _ _ _ _ rfl (by decide)) rfl rfl).mono ?_
    rintro e w1 ⟨Ax, cx, rfl, ox, bw1⟩
    replace bw1 := below_of2 bw1
    replace h0 := h0.below bw1
    replace h1 := h1.below bw1
    replace h2 := h2.below bw1
    replace hb := below_trans hb bw1
    have hx := Ints.of_own ox
    clear bw1 ox
    rw [X1.out, X2.out]
    rw [X2.out] at hx
    go_wp2_with fail
    refine (equal_at Ax _ [1, 5] [1, 5] _ _ _ _ _ (by exact Ints.alloc hx _) (by exact Ints.lit _ _ _ _ rfl (by decide)) rfl rfl).mono ?_
    rintro e w2 ⟨rfl, nw2, hww2⟩
    have bw2 := below_of_drewN hww2
    clear hww2
    replace bw2 := below_of1 bw2
    replace h0 := h0.below bw2
    replace h1 := h1.below bw2
    replace h2 := h2.below bw2
    replace hb := below_trans hb bw2
    clear bw2
    rw [eqB_true rfl]
    clear hx
    go_wp2_with fail
    refine (three_any a0 a1 a2 l0 l1 l2 c0 c1 c2 _ h0 h1 h2).mono ?_
    rintro e w' ⟨rfl, rfl⟩
    rw [T1.out, T2.out]
    go_wp2_with fail
    refine (sum_ok a0 a1 l0 l1 a _ _ c0 c1 _ za h0 h1 rfl rfl).mono ?_
    rintro e w3 ⟨Aa, ca, rfl, oa, bw3⟩
    replace h0 := h0.below bw3
    replace h1 := h1.below bw3
    replace h2 := h2.below bw3
    replace hb := below_trans hb bw3
    have ha := Ints.of_own oa
    clear bw3 oa
    go_wp2_with fail
    refine (sum_ok a1 a0 l1 l0 a _ _ c1 c0 _ za.symm h1 h0 rfl rfl).mono ?_
    rintro e w4 ⟨Ac, cc, rfl, oc, bw4⟩
    replace h0 := h0.below bw4
    replace h1 := h1.below bw4
    replace h2 := h2.below bw4
    replace ha := ha.below bw4
    replace hb := below_trans hb bw4
    have hc := Ints.of_own oc
    clear bw4 oc
    go_wp2_with fail
    refine (same_ok Aa Ac (fitL a) (fitL a) _ _ _ _ _ _ _ ha hc rfl rfl (by first | exact .inl F1.out | exact .inr (.inr ⟨F1.out, F1.out, rfl⟩))).mono ?_
    rintro e w5 ⟨rfl, nw5, hww5⟩
    have bw5 := below_of_drewN hww5
    clear hww5
    replace h0 := h0.below bw5
    replace h1 := h1.below bw5
    replace h2 := h2.below bw5
    replace ha := ha.below bw5
    replace hb := below_trans hb bw5
    clear bw5
    go_wp2_with fail
    refine (min_ok a1 a2 l1 l2 mm c1 c2 _ zm h1 h2).mono ?_
    rintro e w6 ⟨Am, cm, rfl, om, bw6⟩
    replace h0 := h0.below bw6
    replace h1 := h1.below bw6
    replace h2 := h2.below bw6
    replace ha := ha.below bw6
    replace hb := below_trans hb bw6
    have hm := Ints.of_own om
    clear bw6 om
    go_wp2_with fail
    refine (sum_ok a0 Am l0 mm x _ _ c0 cm _ zx h0 hm rfl rfl).mono ?_
    rintro e w7 ⟨Ax, cx, rfl, ox, bw7⟩
    replace h0 := h0.below bw7
    replace h1 := h1.below bw7
    replace h2 := h2.below bw7
    replace ha := ha.below bw7
    replace hb := below_trans hb bw7
    have hx := Ints.of_own ox
    clear bw7 ox
    go_wp2_with fail
    refine (sum_ok a0 a2 l0 l2 k _ _ c0 c2 _ zk h0 h2 rfl rfl).mono ?_
    rintro e w8 ⟨Ak, ck, rfl, ok, bw8⟩
    replace h0 := h0.below bw8
    replace h1 := h1.below bw8
    replace h2 := h2.below bw8
    replace ha := ha.below bw8
    replace hx := hx.below bw8
    replace hb := below_trans hb bw8
    have hk := Ints.of_own ok
    clear bw8 ok
    rw [F1.out, K1.out]
    rw [F2.out, K2.out, Y1.out, Y2.out]
    rw [F2.out] at ha
    rw [K2.out] at hk
    rw [Y2.out] at hx
    go_wp2_with fail
    refine (min_ok Aa Ak a k x ca ck _ zy ha hk).mono ?_
    rintro e w9 ⟨Ay, cy, rfl, oy, bw9⟩
    replace h0 := h0.below bw9
    replace hx := hx.below bw9
    replace hb := below_trans hb bw9
    have hy := Ints.of_own oy
    clear bw9 oy
    go_wp2_with fail
    refine (same_ok Ax Ay x x _ _ _ _ _ _ _ hx hy rfl rfl (.inr (.inr ⟨rfl, rfl, rfl⟩))).mono ?_
    rintro e w10 ⟨rfl, nw10, hww10⟩
    have bw10 := below_of_drewN hww10
    clear hww10
    replace h0 := h0.below bw10
    replace hb := below_trans hb bw10
    clear bw10
    go_wp2_with fail
    refine (within_any m 1000 _ (by decide) (by decide)).mono ?_
    rintro e w' ⟨rfl, rfl⟩
    rw [← HM.out]
    go_wp2_with fail
    refine (within_any n 1000 _ (by decide) (by decide)).mono ?_
    rintro e w' ⟨rfl, rfl⟩
    rw [← HN.out]
    cases bp : bigB p
    · obtain ⟨f1, f2⟩ := fit_ok bp
      obtain ⟨q, zq⟩ := ex_up (zp.curve bp) n0 (by omega)
      have zr := up_twice zp zq (by omega)
      have P1 := Lib.hid f1
      have P2 := Lib.hid f2
      have HQ : Hid (fitE q = 2 ∨ fitE q = 0) := Lib.hid (by unfold fitE; split <;> simp)
      clear f1 f2 bp
      go_wp2_with fail
      refine (up_ok a0 l0 p _ c0 M _ zp h0 rfl).mono ?_
      rintro e w11 ⟨Ap, cp, rfl, op, bw11⟩
      replace h0 := h0.below bw11
      replace hb := below_trans hb bw11
      have hp := Ints.of_own op
      clear bw11 op
      rw [P1.out, P2.out]
      rw [P2.out] at hp
      go_wp2_with fail
      refine (up_ok Ap p q _ cp N _ zq hp rfl).mono ?_
      rintro e w12 ⟨Aq, cq, rfl, oq, bw12⟩
      replace h0 := h0.below bw12
      replace hb := below_trans hb bw12
      have hq := Ints.of_own oq
      clear bw12 oq
      go_wp2_with fail
      refine (up_ok a0 l0 q _ c0 (M + N) _ zr h0 rfl).mono ?_
      rintro e w13 ⟨Ar, cr, rfl, or, bw13⟩
      replace hq := hq.below bw13
      replace hb := below_trans hb bw13
      have hr := Ints.of_own or
      clear bw13 or
      go_wp2_with fail
      refine (same_ok Aq Ar (fitL q) (fitL q) _ _ _ _ _ _ _ hq hr rfl rfl (by rcases HQ.out with h | h; exact .inl h; exact .inr (.inr ⟨h, h, rfl⟩))).mono ?_
      rintro e w14 ⟨rfl, nw14, hww14⟩
      have bw14 := below_of_drewN hww14
      clear hww14
      replace hb := below_trans hb bw14
      clear bw14
      go_wp2
      go_ret
      exact ⟨rfl, hb⟩
    · obtain ⟨f1, f2⟩ := fit_big bp
      have P1 := Lib.hid f1
      have P2 := Lib.hid f2
      clear f1 f2 bp
      go_wp2_with fail
      refine (up_ok a0 l0 p _ c0 M _ zp h0 rfl).mono ?_
      rintro e w11 ⟨Ap, cp, rfl, op, bw11⟩
      replace h0 := h0.below bw11
      replace hb := below_trans hb bw11
      have hp := Ints.of_own op
      clear bw11 op
      rw [P1.out, P2.out]
      go_wp2
      go_ret
      exact ⟨rfl, hb⟩
  · obtain ⟨f1, f2⟩ := fit_ok ba
    obtain ⟨g1, g2⟩ := fit_big bk
    skip
    have F1 := Lib.hid f1
    have F2 := Lib.hid f2
    have K1 := Lib.hid g1
    have K2 := Lib.hid g2
    clear f1 f2 g1 g2 ba bk
    go_enter Try.func7, Try.ntmps7
    go_wp2_with fail
    refine (sum_ok _ _ [0, 3] [1, 2] [1, 5] _ _ _ _ _ sum_lit (by exact Ints.litA _ _ _ _ _ rfl (by decide)) (by exact Ints.litB _ _ _ _ _ rfl (by decide)) rfl rfl).mono ?_
    rintro e w1 ⟨Ax, cx, rfl, ox, bw1⟩
    replace bw1 := below_of2 bw1
    replace h0 := h0.below bw1
    replace h1 := h1.below bw1
    replace h2 := h2.below bw1
    replace hb := below_trans hb bw1
    have hx := Ints.of_own ox
    clear bw1 ox
    rw [X1.out, X2.out]
    rw [X2.out] at hx
    go_wp2_with fail
    refine (equal_at Ax _ [1, 5] [1, 5] _ _ _ _ _ (by exact Ints.alloc hx _) (by exact Ints.lit _ _ _ _ rfl (by decide)) rfl rfl).mono ?_
    rintro e w2 ⟨rfl, nw2, hww2⟩
    have bw2 := below_of_drewN hww2
    clear hww2
    replace bw2 := below_of1 bw2
    replace h0 := h0.below bw2
    replace h1 := h1.below bw2
    replace h2 := h2.below bw2
    replace hb := below_trans hb bw2
    clear bw2
    rw [eqB_true rfl]
    clear hx
    go_wp2_with fail
    refine (three_any a0 a1 a2 l0 l1 l2 c0 c1 c2 _ h0 h1 h2).mono ?_
    rintro e w' ⟨rfl, rfl⟩
    rw [T1.out, T2.out]
    go_wp2_with fail
    refine (sum_ok a0 a1 l0 l1 a _ _ c0 c1 _ za h0 h1 rfl rfl).mono ?_
    rintro e w3 ⟨Aa, ca, rfl, oa, bw3⟩
    replace h0 := h0.below bw3
    replace h1 := h1.below bw3
    replace h2 := h2.below bw3
    replace hb := below_trans hb bw3
    have ha := Ints.of_own oa
    clear bw3 oa
    go_wp2_with fail
    refine (sum_ok a1 a0 l1 l0 a _ _ c1 c0 _ za.symm h1 h0 rfl rfl).mono ?_
    rintro e w4 ⟨Ac, cc, rfl, oc, bw4⟩
    replace h0 := h0.below bw4
    replace h1 := h1.below bw4
    replace h2 := h2.below bw4
    replace ha := ha.below bw4
    replace hb := below_trans hb bw4
    have hc := Ints.of_own oc
    clear bw4 oc
    go_wp2_with fail
    refine (same_ok Aa Ac (fitL a) (fitL a) _ _ _ _ _ _ _ ha hc rfl rfl (by first | exact .inl F1.out | exact .inr (.inr ⟨F1.out, F1.out, rfl⟩))).mono ?_
    rintro e w5 ⟨rfl, nw5, hww5⟩
    have bw5 := below_of_drewN hww5
    clear hww5
    replace h0 := h0.below bw5
    replace h1 := h1.below bw5
    replace h2 := h2.below bw5
    replace ha := ha.below bw5
    replace hb := below_trans hb bw5
    clear bw5
    go_wp2_with fail
    refine (min_ok a1 a2 l1 l2 mm c1 c2 _ zm h1 h2).mono ?_
    rintro e w6 ⟨Am, cm, rfl, om, bw6⟩
    replace h0 := h0.below bw6
    replace h1 := h1.below bw6
    replace h2 := h2.below bw6
    replace ha := ha.below bw6
    replace hb := below_trans hb bw6
    have hm := Ints.of_own om
    clear bw6 om
    go_wp2_with fail
    refine (sum_ok a0 Am l0 mm x _ _ c0 cm _ zx h0 hm rfl rfl).mono ?_
    rintro e w7 ⟨Ax, cx, rfl, ox, bw7⟩
    replace h0 := h0.below bw7
    replace h1 := h1.below bw7
    replace h2 := h2.below bw7
    replace ha := ha.below bw7
    replace hb := below_trans hb bw7
    have hx := Ints.of_own ox
    clear bw7 ox
    go_wp2_with fail
    refine (sum_ok a0 a2 l0 l2 k _ _ c0 c2 _ zk h0 h2 rfl rfl).mono ?_
    rintro e w8 ⟨Ak, ck, rfl, ok, bw8⟩
    replace h0 := h0.below bw8
    replace h1 := h1.below bw8
    replace h2 := h2.below bw8
    replace ha := ha.below bw8
    replace hx := hx.below bw8
    replace hb := below_trans hb bw8
    have hk := Ints.of_own ok
    clear bw8 ok
    rw [F1.out, K1.out]
    skip
    go_wp2_with fail
    refine (within_any m 1000 _ (by decide) (by decide)).mono ?_
    rintro e w' ⟨rfl, rfl⟩
    rw [← HM.out]
    go_wp2_with fail
    refine (within_any n 1000 _ (by decide) (by decide)).mono ?_
    rintro e w' ⟨rfl, rfl⟩
    rw [← HN.out]
    cases bp : bigB p
    · obtain ⟨f1, f2⟩ := fit_ok bp
      obtain ⟨q, zq⟩ := ex_up (zp.curve bp) n0 (by omega)
      have zr := up_twice zp zq (by omega)
      have P1 := Lib.hid f1
      have P2 := Lib.hid f2
      have HQ : Hid (fitE q = 2 ∨ fitE q = 0) := Lib.hid (by unfold fitE; split <;> simp)
      clear f1 f2 bp
      go_wp2_with fail
      refine (up_ok a0 l0 p _ c0 M _ zp h0 rfl).mono ?_
      rintro e w11 ⟨Ap, cp, rfl, op, bw11⟩
      replace h0 := h0.below bw11
      replace hb := below_trans hb bw11
      have hp := Ints.of_own op
      clear bw11 op
      rw [P1.out, P2.out]
      rw [P2.out] at hp
      go_wp2_with fail
      refine (up_ok Ap p q _ cp N _ zq hp rfl).mono ?_
      rintro e w12 ⟨Aq, cq, rfl, oq, bw12⟩
      replace h0 := h0.below bw12
      replace hb := below_trans hb bw12
      have hq := Ints.of_own oq
      clear bw12 oq
      go_wp2_with fail
      refine (up_ok a0 l0 q _ c0 (M + N) _ zr h0 rfl).mono ?_
      rintro e w13 ⟨Ar, cr, rfl, or, bw13⟩
      replace hq := hq.below bw13
      replace hb := below_trans hb bw13
      have hr := Ints.of_own or
      clear bw13 or
      go_wp2_with fail
      refine (same_ok Aq Ar (fitL q) (fitL q) _ _ _ _ _ _ _ hq hr rfl rfl (by rcases HQ.out with h | h; exact .inl h; exact .inr (.inr ⟨h, h, rfl⟩))).mono ?_
      rintro e w14 ⟨rfl, nw14, hww14⟩
      have bw14 := below_of_drewN hww14
      clear hww14
      replace hb := below_trans hb bw14
      clear bw14
      go_wp2
      go_ret
      exact ⟨rfl, hb⟩
    · obtain ⟨f1, f2⟩ := fit_big bp
      have P1 := Lib.hid f1
      have P2 := Lib.hid f2
      clear f1 f2 bp
      go_wp2_with fail
      refine (up_ok a0 l0 p _ c0 M _ zp h0 rfl).mono ?_
      rintro e w11 ⟨Ap, cp, rfl, op, bw11⟩
      replace h0 := h0.below bw11
      replace hb := below_trans hb bw11
      have hp := Ints.of_own op
      clear bw11 op
      rw [P1.out, P2.out]
      go_wp2
      go_ret
      exact ⟨rfl, hb⟩
  · obtain ⟨f1, f2⟩ := fit_big ba
    obtain ⟨g1, g2⟩ := fit_ok bk
    skip
    have F1 := Lib.hid f1
    have F2 := Lib.hid f2
    have K1 := Lib.hid g1
    have K2 := Lib.hid g2
    clear f1 f2 g1 g2 ba bk
    go_enter Try.func7, Try.ntmps7
    go_wp2_with fail
    refine (sum_ok _ _ [0, 3] [1, 2] [1, 5] _ _ _ _ _ sum_lit (by exact Ints.litA _ _ _ _ _ rfl (by decide)) (by exact Ints.litB _ _ _ _ _ rfl (by decide)) rfl rfl).mono ?_
    rintro e w1 ⟨Ax, cx, rfl, ox, bw1⟩
    replace bw1 := below_of2 bw1
    replace h0 := h0.below bw1
    replace h1 := h1.below bw1
    replace h2 := h2.below bw1
    replace hb := below_trans hb bw1
    have hx := Ints.of_own ox
    clear bw1 ox
    rw [X1.out, X2.out]
    rw [X2.out] at hx
    go_wp2_with fail
    refine (equal_at Ax _ [1, 5] [1, 5] _ _ _ _ _ (by exact Ints.alloc hx _) (by exact Ints.lit _ _ _ _ rfl (by decide)) rfl rfl).mono ?_
    rintro e w2 ⟨rfl, nw2, hww2⟩
    have bw2 := below_of_drewN hww2
    clear hww2
    replace bw2 := below_of1 bw2
    replace h0 := h0.below bw2
    replace h1 := h1.below bw2
    replace h2 := h2.below bw2
    replace hb := below_trans hb bw2
    clear bw2
    rw [eqB_true rfl]
    clear hx
    go_wp2_with fail
    refine (three_any a0 a1 a2 l0 l1 l2 c0 c1 c2 _ h0 h1 h2).mono ?_
    rintro e w' ⟨rfl, rfl⟩
    rw [T1.out, T2.out]
    go_wp2_with fail
    refine (sum_ok a0 a1 l0 l1 a _ _ c0 c1 _ za h0 h1 rfl rfl).mono ?_
    rintro e w3 ⟨Aa, ca, rfl, oa, bw3⟩
    replace h0 := h0.below bw3
    replace h1 := h1.below bw3
    replace h2 := h2.below bw3
    replace hb := below_trans hb bw3
    have ha := Ints.of_own oa
    clear bw3 oa
    go_wp2_with fail
    refine (sum_ok a1 a0 l1 l0 a _ _ c1 c0 _ za.symm h1 h0 rfl rfl).mono ?_
    rintro e w4 ⟨Ac, cc, rfl, oc, bw4⟩
    replace h0 := h0.below bw4
    replace h1 := h1.below bw4
    replace h2 := h2.below bw4
    replace ha := ha.below bw4
    replace hb := below_trans hb bw4
    have hc := Ints.of_own oc
    clear bw4 oc
    go_wp2_with fail
    refine (same_ok Aa Ac (fitL a) (fitL a) _ _ _ _ _ _ _ ha hc rfl rfl (by first | exact .inl F1.out | exact .inr (.inr ⟨F1.out, F1.out, rfl⟩))).mono ?_
    rintro e w5 ⟨rfl, nw5, hww5⟩
    have bw5 := below_of_drewN hww5
    clear hww5
    replace h0 := h0.below bw5
    replace h1 := h1.below bw5
    replace h2 := h2.below bw5
    replace ha := ha.below bw5
    replace hb := below_trans hb bw5
    clear bw5
    go_wp2_with fail
    refine (min_ok a1 a2 l1 l2 mm c1 c2 _ zm h1 h2).mono ?_
    rintro e w6 ⟨Am, cm, rfl, om, bw6⟩
    replace h0 := h0.below bw6
    replace h1 := h1.below bw6
    replace h2 := h2.below bw6
    replace ha := ha.below bw6
    replace hb := below_trans hb bw6
    have hm := Ints.of_own om
    clear bw6 om
    go_wp2_with fail
    refine (sum_ok a0 Am l0 mm x _ _ c0 cm _ zx h0 hm rfl rfl).mono ?_
    rintro e w7 ⟨Ax, cx, rfl, ox, bw7⟩
    replace h0 := h0.below bw7
    replace h1 := h1.below bw7
    replace h2 := h2.below bw7
    replace ha := ha.below bw7
    replace hb := below_trans hb bw7
    have hx := Ints.of_own ox
    clear bw7 ox
    go_wp2_with fail
    refine (sum_ok a0 a2 l0 l2 k _ _ c0 c2 _ zk h0 h2 rfl rfl).mono ?_
    rintro e w8 ⟨Ak, ck, rfl, ok, bw8⟩
    replace h0 := h0.below bw8
    replace h1 := h1.below bw8
    replace h2 := h2.below bw8
    replace ha := ha.below bw8
    replace hx := hx.below bw8
    replace hb := below_trans hb bw8
    have hk := Ints.of_own ok
    clear bw8 ok
    rw [F1.out, K1.out]
    skip
    go_wp2_with fail
    refine (within_any m 1000 _ (by decide) (by decide)).mono ?_
    rintro e w' ⟨rfl, rfl⟩
    rw [← HM.out]
    go_wp2_with fail
    refine (within_any n 1000 _ (by decide) (by decide)).mono ?_
    rintro e w' ⟨rfl, rfl⟩
    rw [← HN.out]
    cases bp : bigB p
    · obtain ⟨f1, f2⟩ := fit_ok bp
      obtain ⟨q, zq⟩ := ex_up (zp.curve bp) n0 (by omega)
      have zr := up_twice zp zq (by omega)
      have P1 := Lib.hid f1
      have P2 := Lib.hid f2
      have HQ : Hid (fitE q = 2 ∨ fitE q = 0) := Lib.hid (by unfold fitE; split <;> simp)
      clear f1 f2 bp
      go_wp2_with fail
      refine (up_ok a0 l0 p _ c0 M _ zp h0 rfl).mono ?_
      rintro e w11 ⟨Ap, cp, rfl, op, bw11⟩
      replace h0 := h0.below bw11
      replace hb := below_trans hb bw11
      have hp := Ints.of_own op
      clear bw11 op
      rw [P1.out, P2.out]
      rw [P2.out] at hp
      go_wp2_with fail
      refine (up_ok Ap p q _ cp N _ zq hp rfl).mono ?_
      rintro e w12 ⟨Aq, cq, rfl, oq, bw12⟩
      replace h0 := h0.below bw12
      replace hb := below_trans hb bw12
      have hq := Ints.of_own oq
      clear bw12 oq
      go_wp2_with fail
      refine (up_ok a0 l0 q _ c0 (M + N) _ zr h0 rfl).mono ?_
      rintro e w13 ⟨Ar, cr, rfl, or, bw13⟩
      replace hq := hq.below bw13
      replace hb := below_trans hb bw13
      have hr := Ints.of_own or
      clear bw13 or
      go_wp2_with fail
      refine (same_ok Aq Ar (fitL q) (fitL q) _ _ _ _ _ _ _ hq hr rfl rfl (by rcases HQ.out with h | h; exact .inl h; exact .inr (.inr ⟨h, h, rfl⟩))).mono ?_
      rintro e w14 ⟨rfl, nw14, hww14⟩
      have bw14 := below_of_drewN hww14
      clear hww14
      replace hb := below_trans hb bw14
      clear bw14
      go_wp2
      go_ret
      exact ⟨rfl, hb⟩
    · obtain ⟨f1, f2⟩ := fit_big bp
      have P1 := Lib.hid f1
      have P2 := Lib.hid f2
      clear f1 f2 bp
      go_wp2_with fail
      refine (up_ok a0 l0 p _ c0 M _ zp h0 rfl).mono ?_
      rintro e w11 ⟨Ap, cp, rfl, op, bw11⟩
      replace h0 := h0.below bw11
      replace hb := below_trans hb bw11
      have hp := Ints.of_own op
      clear bw11 op
      rw [P1.out, P2.out]
      go_wp2
      go_ret
      exact ⟨rfl, hb⟩
  · obtain ⟨f1, f2⟩ := fit_big ba
    obtain ⟨g1, g2⟩ := fit_big bk
    skip
    have F1 := Lib.hid f1
    have F2 := Lib.hid f2
    have K1 := Lib.hid g1
    have K2 := Lib.hid g2
    clear f1 f2 g1 g2 ba bk
    go_enter Try.func7, Try.ntmps7
    go_wp2_with fail
    refine (sum_ok _ _ [0, 3] [1, 2] [1, 5] _ _ _ _ _ sum_lit (by exact Ints.litA _ _ _ _ _ rfl (by decide)) (by exact Ints.litB _ _ _ _ _ rfl (by decide)) rfl rfl).mono ?_
    rintro e w1 ⟨Ax, cx, rfl, ox, bw1⟩
    replace bw1 := below_of2 bw1
    replace h0 := h0.below bw1
    replace h1 := h1.below bw1
    replace h2 := h2.below bw1
    replace hb := below_trans hb bw1
    have hx := Ints.of_own ox
    clear bw1 ox
    rw [X1.out, X2.out]
    rw [X2.out] at hx
    go_wp2_with fail
    refine (equal_at Ax _ [1, 5] [1, 5] _ _ _ _ _ (by exact Ints.alloc hx _) (by exact Ints.lit _ _ _ _ rfl (by decide)) rfl rfl).mono ?_
    rintro e w2 ⟨rfl, nw2, hww2⟩
    have bw2 := below_of_drewN hww2
    clear hww2
    replace bw2 := below_of1 bw2
    replace h0 := h0.below bw2
    replace h1 := h1.below bw2
    replace h2 := h2.below bw2
    replace hb := below_trans hb bw2
    clear bw2
    rw [eqB_true rfl]
    clear hx
    go_wp2_with fail
    refine (three_any a0 a1 a2 l0 l1 l2 c0 c1 c2 _ h0 h1 h2).mono ?_
    rintro e w' ⟨rfl, rfl⟩
    rw [T1.out, T2.out]
    go_wp2_with fail
    refine (sum_ok a0 a1 l0 l1 a _ _ c0 c1 _ za h0 h1 rfl rfl).mono ?_
    rintro e w3 ⟨Aa, ca, rfl, oa, bw3⟩
    replace h0 := h0.below bw3
    replace h1 := h1.below bw3
    replace h2 := h2.below bw3
    replace hb := below_trans hb bw3
    have ha := Ints.of_own oa
    clear bw3 oa
    go_wp2_with fail
    refine (sum_ok a1 a0 l1 l0 a _ _ c1 c0 _ za.symm h1 h0 rfl rfl).mono ?_
    rintro e w4 ⟨Ac, cc, rfl, oc, bw4⟩
    replace h0 := h0.below bw4
    replace h1 := h1.below bw4
    replace h2 := h2.below bw4
    replace ha := ha.below bw4
    replace hb := below_trans hb bw4
    have hc := Ints.of_own oc
    clear bw4 oc
    go_wp2_with fail
    refine (same_ok Aa Ac (fitL a) (fitL a) _ _ _ _ _ _ _ ha hc rfl rfl (by first | exact .inl F1.out | exact .inr (.inr ⟨F1.out, F1.out, rfl⟩))).mono ?_
    rintro e w5 ⟨rfl, nw5, hww5⟩
    have bw5 := below_of_drewN hww5
    clear hww5
    replace h0 := h0.below bw5
    replace h1 := h1.below bw5
    replace h2 := h2.below bw5
    replace ha := ha.below bw5
    replace hb := below_trans hb bw5
    clear bw5
    go_wp2_with fail
    refine (min_ok a1 a2 l1 l2 mm c1 c2 _ zm h1 h2).mono ?_
    rintro e w6 ⟨Am, cm, rfl, om, bw6⟩
    replace h0 := h0.below bw6
    replace h1 := h1.below bw6
    replace h2 := h2.below bw6
    replace ha := ha.below bw6
    replace hb := below_trans hb bw6
    have hm := Ints.of_own om
    clear bw6 om
    go_wp2_with fail
    refine (sum_ok a0 Am l0 mm x _ _ c0 cm _ zx h0 hm rfl rfl).mono ?_
    rintro e w7 ⟨Ax, cx, rfl, ox, bw7⟩
    replace h0 := h0.below bw7
    replace h1 := h1.below bw7
    replace h2 := h2.below bw7
    replace ha := ha.below bw7
    replace hb := below_trans hb bw7
    have hx := Ints.of_own ox
    clear bw7 ox
    go_wp2_with fail
    refine (sum_ok a0 a2 l0 l2 k _ _ c0 c2 _ zk h0 h2 rfl rfl).mono ?_
    rintro e w8 ⟨Ak, ck, rfl, ok, bw8⟩
    replace h0 := h0.below bw8
    replace h1 := h1.below bw8
    replace h2 := h2.below bw8
    replace ha := ha.below bw8
    replace hx := hx.below bw8
    replace hb := below_trans hb bw8
    have hk := Ints.of_own ok
    clear bw8 ok
    rw [F1.out, K1.out]
    skip
    go_wp2_with fail
    refine (within_any m 1000 _ (by decide) (by decide)).mono ?_
    rintro e w' ⟨rfl, rfl⟩
    rw [← HM.out]
    go_wp2_with fail
    refine (within_any n 1000 _ (by decide) (by decide)).mono ?_
    rintro e w' ⟨rfl, rfl⟩
    rw [← HN.out]
    cases bp : bigB p
    · obtain ⟨f1, f2⟩ := fit_ok bp
      obtain ⟨q, zq⟩ := ex_up (zp.curve bp) n0 (by omega)
      have zr := up_twice zp zq (by omega)
      have P1 := Lib.hid f1
      have P2 := Lib.hid f2
      have HQ : Hid (fitE q = 2 ∨ fitE q = 0) := Lib.hid (by unfold fitE; split <;> simp)
      clear f1 f2 bp
      go_wp2_with fail
      refine (up_ok a0 l0 p _ c0 M _ zp h0 rfl).mono ?_
      rintro e w11 ⟨Ap, cp, rfl, op, bw11⟩
      replace h0 := h0.below bw11
      replace hb := below_trans hb bw11
      have hp := Ints.of_own op
      clear bw11 op
      rw [P1.out, P2.out]
      rw [P2.out] at hp
      go_wp2_with fail
      refine (up_ok Ap p q _ cp N _ zq hp rfl).mono ?_
      rintro e w12 ⟨Aq, cq, rfl, oq, bw12⟩
      replace h0 := h0.below bw12
      replace hb := below_trans hb bw12
      have hq := Ints.of_own oq
      clear bw12 oq
      go_wp2_with fail
      refine (up_ok a0 l0 q _ c0 (M + N) _ zr h0 rfl).mono ?_
      rintro e w13 ⟨Ar, cr, rfl, or, bw13⟩
      replace hq := hq.below bw13
      replace hb := below_trans hb bw13
      have hr := Ints.of_own or
      clear bw13 or
      go_wp2_with fail
      refine (same_ok Aq Ar (fitL q) (fitL q) _ _ _ _ _ _ _ hq hr rfl rfl (by rcases HQ.out with h | h; exact .inl h; exact .inr (.inr ⟨h, h, rfl⟩))).mono ?_
      rintro e w14 ⟨rfl, nw14, hww14⟩
      have bw14 := below_of_drewN hww14
      clear hww14
      replace hb := below_trans hb bw14
      clear bw14
      go_wp2
      go_ret
      exact ⟨rfl, hb⟩
    · obtain ⟨f1, f2⟩ := fit_big bp
      have P1 := Lib.hid f1
      have P2 := Lib.hid f2
      clear f1 f2 bp
      go_wp2_with fail
      refine (up_ok a0 l0 p _ c0 M _ zp h0 rfl).mono ?_
      rintro e w11 ⟨Ap, cp, rfl, op, bw11⟩
      replace h0 := h0.below bw11
      replace hb := below_trans hb bw11
      have hp := Ints.of_own op
      clear bw11 op
      rw [P1.out, P2.out]
      go_wp2
      go_ret
      exact ⟨rfl, hb⟩

end Go.Proofs.Ythjdabmlilnepaa
