
/-
  The walk of the law PointGalois.
-/
import Derived.Test.YthjdabmlilnepaaPointL
namespace Go.Proofs.Ythjdabmlilnepaa
set_option linter.all false
open Go.RowKit

theorem less_lit : Lesses [0, 5, 6] [0, 1, 6] [0, 4, 4] := by
  refine ⟨cv_of (by decide), cv_of (by decide), rfl, rfl, cv_of (by decide), fun t ht => ?_⟩
  match t, ht with
  | 0, _ => rfl
  | 1, _ => rfl
  | 2, _ => rfl

theorem less_galois {l m h R S : List Int} (z : Lesses l m R) (s : Sums m h S) (hb : bigB S = false) : leK R h = leK l S := by
  have e1 := z.len; have e2 := z.rlen; have e3 := s.len; have e4 := s.rlen
  apply bool_eq
  rw [leK_iff z.r s.two (by omega), leK_iff z.one (s.curve hb) (by omega)]
  constructor
  · intro H t ht
    have h1 := H t (by omega)
    rw [z.val t ht] at h1
    have h2 := (mx_le_iff _ _ (s.two.lo t (by omega)) _).1 h1 t (by omega)
    rw [s.val t (by omega)]
    omega
  · intro H t ht
    rw [z.val t (by omega)]
    refine (mx_le_iff _ _ (s.two.lo t (by omega)) _).2 (fun i hi => ?_)
    have h1 := H i (by omega)
    rw [s.val i (by omega)] at h1
    have h2 := s.two.mono (i := i) (j := t) (by omega) (by omega)
    omega

set_option maxHeartbeats 1600000 in
theorem walk_PointGalois (a0 : Option Addr) (c0 : Nat) (l0 : List Int) (a1 : Option Addr) (c1 : Nat) (l1 : List Int) (a2 : Option Addr) (c2 : Nat) (l2 : List Int) (w : World)
    (h0 : Ints w a0 l0) (_k0 : l0.length ≤ c0) (h1 : Ints w a1 l1) (_k1 : l1.length ≤ c1) (h2 : Ints w a2 l2) (_k2 : l2.length ≤ c2) :
    Calls Try.prog 8 #[.slice a0 l0.length c0, .slice a1 l1.length c1, .slice a2 l2.length c2] w fun e w' => e = .returned (.bool true) ∧ Below w.heap.size w w' := by
  have hb : Below w.heap.size w w := Below.refl _ _
  cases t1 : okB l0 l1
  · have T1 := Lib.hid t1
    clear t1
    go_enter Try.func8, Try.ntmps8
    go_wp2_with fail
    refine (less_ok _ _ [0, 5, 6] [0, 1, 6] [0, 4, 4] _ _ _ _ _ less_lit (by exact Ints.litA _ _ _ _ _ rfl (by decide)) (by exact Ints.litB _ _ _ _ _ rfl (by decide)) rfl rfl).mono ?_
    rintro e w1 ⟨Ax, cx, rfl, ox, bw1⟩
    replace bw1 := below_of2 bw1
    replace h0 := h0.below bw1
    replace h1 := h1.below bw1
    replace h2 := h2.below bw1
    replace hb := below_trans hb bw1
    have hx := Ints.of_own ox
    clear bw1 ox
    go_wp2_with fail
    refine (equal_at Ax _ [0, 4, 4] [0, 4, 4] _ _ _ _ _ (by exact Ints.alloc hx _) (by exact Ints.lit _ _ _ _ rfl (by decide)) rfl rfl).mono ?_
    rintro e w2 ⟨rfl, nw2, hww2⟩
    have bw2 := below_of_drewN hww2
    clear hww2
    replace bw2 := below_of1 bw2
    replace h0 := h0.below bw2
    replace h1 := h1.below bw2
    replace h2 := h2.below bw2
    replace hb := below_trans hb bw2
    clear bw2
    rw [eqB_true rfl]
    clear hx
    go_wp2_with fail
    refine (three_any a0 a1 a2 l0 l1 l2 c0 c1 c2 _ h0 h1 h2).mono ?_
    rintro e w' ⟨rfl, rfl⟩
    rw [T1.out]
    go_wp2
    go_ret
    exact ⟨rfl, hb⟩
  cases t2 : okB l1 l2
  · have T1 := Lib.hid t1
    have T2 := Lib.hid t2
    clear t1 t2
    go_enter Try.func8, Try.ntmps8
    go_wp2_with fail
    refine (less_ok _ _ [0, 5, 6] [0, 1, 6] [0, 4, 4] _ _ _ _ _ less_lit (by exact Ints.litA _ _ _ _ _ rfl (by decide)) (by exact Ints.litB _ _ _ _ _ rfl (by decide)) rfl rfl).mono ?_
    rintro e w1 ⟨Ax, cx, rfl, ox, bw1⟩
    replace bw1 := below_of2 bw1
    replace h0 := h0.below bw1
    replace h1 := h1.below bw1
    replace h2 := h2.below bw1
    replace hb := below_trans hb bw1
    have hx := Ints.of_own ox
    clear bw1 ox
    go_wp2_with fail
    refine (equal_at Ax _ [0, 4, 4] [0, 4, 4] _ _ _ _ _ (by exact Ints.alloc hx _) (by exact Ints.lit _ _ _ _ rfl (by decide)) rfl rfl).mono ?_
    rintro e w2 ⟨rfl, nw2, hww2⟩
    have bw2 := below_of_drewN hww2
    clear hww2
    replace bw2 := below_of1 bw2
    replace h0 := h0.below bw2
    replace h1 := h1.below bw2
    replace h2 := h2.below bw2
    replace hb := below_trans hb bw2
    clear bw2
    rw [eqB_true rfl]
    clear hx
    go_wp2_with fail
    refine (three_any a0 a1 a2 l0 l1 l2 c0 c1 c2 _ h0 h1 h2).mono ?_
    rintro e w' ⟨rfl, rfl⟩
    rw [T1.out, T2.out]
    go_wp2
    go_ret
    exact ⟨rfl, hb⟩
  obtain ⟨v0, v1, e1⟩ := chk2_iff.1 (chk2_of_okB t1)
  obtain ⟨_, v2, e2⟩ := chk2_iff.1 (chk2_of_okB t2)
  obtain ⟨x, zx⟩ := ex_less v0 v1 e1
  obtain ⟨y, zy⟩ := ex_sum v1 v2 e2
  have T1 := Lib.hid t1
  have T2 := Lib.hid t2
  clear t1 t2 e1 e2
  cases bg : bigB y
  · obtain ⟨f1, f2⟩ := fit_ok bg
    have F1 := Lib.hid f1
    have F2 := Lib.hid f2
    have Q := Lib.hid (less_galois zx zy bg)
    clear f1 f2 bg
    have eb : (leK l0 y == leK l0 y) = true := by simp
    go_enter Try.func8, Try.ntmps8
    go_wp2_with fail
    refine (less_ok _ _ [0, 5, 6] [0, 1, 6] [0, 4, 4] _ _ _ _ _ less_lit (by exact Ints.litA _ _ _ _ _ rfl (by decide)) (by exact Ints.litB _ _ _ _ _ rfl (by decide)) rfl rfl).mono ?_
    rintro e w1 ⟨Ax, cx, rfl, ox, bw1⟩
    replace bw1 := below_of2 bw1
    replace h0 := h0.below bw1
    replace h1 := h1.below bw1
    replace h2 := h2.below bw1
    replace hb := below_trans hb bw1
    have hx := Ints.of_own ox
    clear bw1 ox
    go_wp2_with fail
    refine (equal_at Ax _ [0, 4, 4] [0, 4, 4] _ _ _ _ _ (by exact Ints.alloc hx _) (by exact Ints.lit _ _ _ _ rfl (by decide)) rfl rfl).mono ?_
    rintro e w2 ⟨rfl, nw2, hww2⟩
    have bw2 := below_of_drewN hww2
    clear hww2
    replace bw2 := below_of1 bw2
    replace h0 := h0.below bw2
    replace h1 := h1.below bw2
    replace h2 := h2.below bw2
    replace hb := below_trans hb bw2
    clear bw2
    rw [eqB_true rfl]
    clear hx
    go_wp2_with fail
    refine (three_any a0 a1 a2 l0 l1 l2 c0 c1 c2 _ h0 h1 h2).mono ?_
    rintro e w' ⟨rfl, rfl⟩
    rw [T1.out, T2.out]
    go_wp2_with fail
    refine (less_ok a0 a1 l0 l1 x _ _ c0 c1 _ zx h0 h1 rfl rfl).mono ?_
    rintro e w3 ⟨Ax, cx, rfl, ox, bw3⟩
    replace h0 := h0.below bw3
    replace h1 := h1.below bw3
    replace h2 := h2.below bw3
    replace hb := below_trans hb bw3
    have hx := Ints.of_own ox
    clear bw3 ox
    go_wp2_with fail
    refine (sum_ok a1 a2 l1 l2 y _ _ c1 c2 _ zy h1 h2 rfl rfl).mono ?_
    rintro e w4 ⟨Ay, cy, rfl, oy, bw4⟩
    replace h0 := h0.below bw4
    replace h1 := h1.below bw4
    replace h2 := h2.below bw4
    replace hx := hx.below bw4
    replace hb := below_trans hb bw4
    have hy := Ints.of_own oy
    clear bw4 oy
    rw [F1.out, F2.out]
    rw [F2.out] at hy
    go_wp2_with fail
    refine (kle_any Ax a2 x l2 cx c2 _ hx h2).mono ?_
    rintro e w5 ⟨rfl, nw5, hww5⟩
    have bw5 := below_of_drewN hww5
    clear hww5
    replace h0 := h0.below bw5
    replace hy := hy.below bw5
    replace hb := below_trans hb bw5
    clear bw5
    rw [Q.out]
    go_wp2_with fail
    refine (kle_any a0 Ay l0 y c0 cy _ h0 hy).mono ?_
    rintro e w6 ⟨rfl, nw6, hww6⟩
    have bw6 := below_of_drewN hww6
    clear hww6
    replace hb := below_trans hb bw6
    clear bw6
    go_wp2
    go_ret
    exact ⟨rfl, hb⟩
  · obtain ⟨f1, f2⟩ := fit_big bg
    have F1 := Lib.hid f1
    have F2 := Lib.hid f2
    clear f1 f2 bg
    go_enter Try.func8, Try.ntmps8
    go_wp2_with fail
    refine (less_ok _ _ [0, 5, 6] [0, 1, 6] [0, 4, 4] _ _ _ _ _ less_lit (by exact Ints.litA _ _ _ _ _ rfl (by decide)) (by exact Ints.litB _ _ _ _ _ rfl (by decide)) rfl rfl).mono ?_
    rintro e w1 ⟨Ax, cx, rfl, ox, bw1⟩
    replace bw1 := below_of2 bw1
    replace h0 := h0.below bw1
    replace h1 := h1.below bw1
    replace h2 := h2.below bw1
    replace hb := below_trans hb bw1
    have hx := Ints.of_own ox
    clear bw1 ox
    go_wp2_with fail
    refine (equal_at Ax _ [0, 4, 4] [0, 4, 4] _ _ _ _ _ (by exact Ints.alloc hx _) (by exact Ints.lit _ _ _ _ rfl (by decide)) rfl rfl).mono ?_
    rintro e w2 ⟨rfl, nw2, hww2⟩
    have bw2 := below_of_drewN hww2
    clear hww2
    replace bw2 := below_of1 bw2
    replace h0 := h0.below bw2
    replace h1 := h1.below bw2
    replace h2 := h2.below bw2
    replace hb := below_trans hb bw2
    clear bw2
    rw [eqB_true rfl]
    clear hx
    go_wp2_with fail
    refine (three_any a0 a1 a2 l0 l1 l2 c0 c1 c2 _ h0 h1 h2).mono ?_
    rintro e w' ⟨rfl, rfl⟩
    rw [T1.out, T2.out]
    go_wp2_with fail
    refine (less_ok a0 a1 l0 l1 x _ _ c0 c1 _ zx h0 h1 rfl rfl).mono ?_
    rintro e w3 ⟨Ax, cx, rfl, ox, bw3⟩
    replace h0 := h0.below bw3
    replace h1 := h1.below bw3
    replace h2 := h2.below bw3
    replace hb := below_trans hb bw3
    have hx := Ints.of_own ox
    clear bw3 ox
    go_wp2_with fail
    refine (sum_ok a1 a2 l1 l2 y _ _ c1 c2 _ zy h1 h2 rfl rfl).mono ?_
    rintro e w4 ⟨Ay, cy, rfl, oy, bw4⟩
    replace h0 := h0.below bw4
    replace h1 := h1.below bw4
    replace h2 := h2.below bw4
    replace hx := hx.below bw4
    replace hb := below_trans hb bw4
    have hy := Ints.of_own oy
    clear bw4 oy
    rw [F1.out, F2.out]
    go_wp2
    go_ret
    exact ⟨rfl, hb⟩

end Go.Proofs.Ythjdabmlilnepaa
