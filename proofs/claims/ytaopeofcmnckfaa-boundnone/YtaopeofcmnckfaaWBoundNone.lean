
/-
  The walk of the law BoundNone.
-/
import Derived.Test.YtaopeofcmnckfaaBoundK
namespace Go.Proofs.Ytaopeofcmnckfaa
set_option linter.all false
open Go.RowKit Go.Shelf


theorem del_lit3 : DelIs [0, 3] [0, 3] 0 0 := del_dec (d := 0) (by decide) (by decide) (by decide)
theorem back_lit3 : backV [0, 4] [0, 3] = 1 := by decide

set_option maxHeartbeats 3200000 in
theorem walk_BoundNone (a0 : Option Addr) (c0 : Nat) (l0 : List Int) (a1 : Option Addr) (c1 : Nat) (l1 : List Int) (w : World)
    (h0 : Ints w a0 l0) (k0 : l0.length ≤ c0) (h1 : Ints w a1 l1) (k1 : l1.length ≤ c1) :
    Calls Try.prog 14 #[.slice a0 l0.length c0, .slice a1 l1.length c1] w fun e w' => e = .returned (.bool true) ∧ Below w.heap.size w w' := by
  have hb : Below w.heap.size w w := Below.refl _ _
  cases t1 : okB l0 l1
  · have T1 := Lib.hid t1
    clear t1
    go_enter Try.func14, Try.ntmps14
    go_wp2_with fail
    refine (delay_at _ _ [0, 3] [0, 3] _ _ _ _ 0 0 _ (by decide) del_lit3 (by exact Ints.litA _ _ _ _ _ rfl (by decide)) (by exact Ints.litB _ _ _ _ _ rfl (by decide)) (by decide) (by decide) rfl rfl).mono ?_
    rintro e w1 ⟨rfl, nw1, hww1⟩
    have bw1 := below_of_drewN hww1
    clear hww1
    replace bw1 := below_of2 bw1
    replace h0 := h0.below bw1
    replace h1 := h1.below bw1
    replace hb := below_trans hb bw1
    clear bw1
    go_wp2_with fail
    refine (back_lits _ _ [0, 4] [0, 3] _ _ _ _ 1 _ (by decide) (Lib.hid back_lit3) (by exact Ints.litA _ _ _ _ _ rfl (by decide)) (by exact Ints.litB _ _ _ _ _ rfl (by decide)) rfl rfl).mono ?_
    rintro e w2 ⟨rfl, bw2⟩
    replace bw2 := below_of2 bw2
    replace h0 := h0.below bw2
    replace h1 := h1.below bw2
    replace hb := below_trans hb bw2
    clear bw2
    go_wp2_with fail
    refine (both_any a0 a1 l0 l1 c0 c1 _ h0 h1).mono ?_
    rintro e w' ⟨rfl, rfl⟩
    rw [T1.out]
    go_wp2
    go_ret
    exact ⟨rfl, hb⟩
  obtain ⟨v0, v1, e01⟩ := chk2_iff.1 (chk2_of_okB t1)
  have T1 := Lib.hid t1
  clear t1
  have Q01 := Lib.hid (chk2_iff.2 ⟨v0, v1, e01⟩)
  cases hk : leK l0 l1
  · have K := Lib.hid hk
    have hle : ¬ ∀ t, t < l0.length → gt l0 t ≤ gt l1 t := fun h => by rw [(leK_iff v0 v1 e01).2 h] at hk; cases hk
    obtain ⟨n, hn⟩ : ∃ n, n = backV l0 l1 := ⟨_, rfl⟩
    have N := Lib.hid hn.symm
    have n0 : ¬ n = 0 := fun q => hle (fun t ht => by have := back_ge (a := l0) (b := l1) (t := t) ht; omega)
    have t1 : (n == 0) = false := by simp [n0]
    obtain ⟨d, E, hd⟩ := ex_delIs l0 l1
    have HD := Lib.hid hd
    rcases hd with ⟨d', id, rfl, rfl⟩ | ⟨_, rfl, rfl⟩
    · have d0 : ¬ d' = 0 := fun q => by
        subst q
        exact hle (fun t ht => id.ok t ht)
      have t2 : ((d' : Int) == 0) = false := by simp; omega
      clear hk hle hn n0 d0 id e01
      go_enter Try.func14, Try.ntmps14
      go_wp2_with fail
      refine (delay_at _ _ [0, 3] [0, 3] _ _ _ _ 0 0 _ (by decide) del_lit3 (by exact Ints.litA _ _ _ _ _ rfl (by decide)) (by exact Ints.litB _ _ _ _ _ rfl (by decide)) (by decide) (by decide) rfl rfl).mono ?_
      rintro e w1 ⟨rfl, nw1, hww1⟩
      have bw1 := below_of_drewN hww1
      clear hww1
      replace bw1 := below_of2 bw1
      replace h0 := h0.below bw1
      replace h1 := h1.below bw1
      replace hb := below_trans hb bw1
      clear bw1
      go_wp2_with fail
      refine (back_lits _ _ [0, 4] [0, 3] _ _ _ _ 1 _ (by decide) (Lib.hid back_lit3) (by exact Ints.litA _ _ _ _ _ rfl (by decide)) (by exact Ints.litB _ _ _ _ _ rfl (by decide)) rfl rfl).mono ?_
      rintro e w2 ⟨rfl, bw2⟩
      replace bw2 := below_of2 bw2
      replace h0 := h0.below bw2
      replace h1 := h1.below bw2
      replace hb := below_trans hb bw2
      clear bw2
      go_wp2_with fail
      refine (both_any a0 a1 l0 l1 c0 c1 _ h0 h1).mono ?_
      rintro e w' ⟨rfl, rfl⟩
      rw [T1.out]
      go_wp2_with fail
      refine (back_lits a0 a1 l0 l1 _ _ c0 c1 n _ Q01.out N h0 h1 rfl rfl).mono ?_
      rintro e w3 ⟨rfl, bw3⟩
      replace h0 := h0.below bw3
      replace h1 := h1.below bw3
      replace hb := below_trans hb bw3
      clear bw3
      go_wp2_with fail
      refine (delay_at a0 a1 l0 l1 _ _ c0 c1 d' 0 _ Q01.out HD.out h0 h1 k0 k1 rfl rfl).mono ?_
      rintro e w4 ⟨rfl, nw4, hww4⟩
      have bw4 := below_of_drewN hww4
      clear hww4
      replace h0 := h0.below bw4
      replace h1 := h1.below bw4
      replace hb := below_trans hb bw4
      clear bw4
      go_wp2_with fail
      refine (kle_at a0 a1 l0 l1 _ _ _ _ _ h0 h1 rfl rfl).mono ?_
      rintro e w5 ⟨rfl, nw5, hww5⟩
      have bw5 := below_of_drewN hww5
      clear hww5
      replace hb := below_trans hb bw5
      clear bw5
      rw [K.out]
      go_wp2
      go_ret
      exact ⟨rfl, hb⟩
    · clear hk hle hn n0 e01
      go_enter Try.func14, Try.ntmps14
      go_wp2_with fail
      refine (delay_at _ _ [0, 3] [0, 3] _ _ _ _ 0 0 _ (by decide) del_lit3 (by exact Ints.litA _ _ _ _ _ rfl (by decide)) (by exact Ints.litB _ _ _ _ _ rfl (by decide)) (by decide) (by decide) rfl rfl).mono ?_
      rintro e w1 ⟨rfl, nw1, hww1⟩
      have bw1 := below_of_drewN hww1
      clear hww1
      replace bw1 := below_of2 bw1
      replace h0 := h0.below bw1
      replace h1 := h1.below bw1
      replace hb := below_trans hb bw1
      clear bw1
      go_wp2_with fail
      refine (back_lits _ _ [0, 4] [0, 3] _ _ _ _ 1 _ (by decide) (Lib.hid back_lit3) (by exact Ints.litA _ _ _ _ _ rfl (by decide)) (by exact Ints.litB _ _ _ _ _ rfl (by decide)) rfl rfl).mono ?_
      rintro e w2 ⟨rfl, bw2⟩
      replace bw2 := below_of2 bw2
      replace h0 := h0.below bw2
      replace h1 := h1.below bw2
      replace hb := below_trans hb bw2
      clear bw2
      go_wp2_with fail
      refine (both_any a0 a1 l0 l1 c0 c1 _ h0 h1).mono ?_
      rintro e w' ⟨rfl, rfl⟩
      rw [T1.out]
      go_wp2_with fail
      refine (back_lits a0 a1 l0 l1 _ _ c0 c1 n _ Q01.out N h0 h1 rfl rfl).mono ?_
      rintro e w3 ⟨rfl, bw3⟩
      replace h0 := h0.below bw3
      replace h1 := h1.below bw3
      replace hb := below_trans hb bw3
      clear bw3
      go_wp2_with fail
      refine (delay_at a0 a1 l0 l1 _ _ c0 c1 0 5 _ Q01.out HD.out h0 h1 k0 k1 rfl rfl).mono ?_
      rintro e w4 ⟨rfl, nw4, hww4⟩
      have bw4 := below_of_drewN hww4
      clear hww4
      replace h0 := h0.below bw4
      replace h1 := h1.below bw4
      replace hb := below_trans hb bw4
      clear bw4
      go_wp2_with fail
      refine (kle_at a0 a1 l0 l1 _ _ _ _ _ h0 h1 rfl rfl).mono ?_
      rintro e w5 ⟨rfl, nw5, hww5⟩
      have bw5 := below_of_drewN hww5
      clear hww5
      replace hb := below_trans hb bw5
      clear bw5
      rw [K.out]
      go_wp2
      go_ret
      exact ⟨rfl, hb⟩
  · have K := Lib.hid hk
    have hle := (leK_iff v0 v1 e01).1 hk
    have N : Hid (backV l0 l1 = 0) := Lib.hid (by
      have h1 := back0 l0 l1
      have h2 := (back_iff (a := l0) (b := l1) (Int.le_refl 0)).2 (fun t ht => by have := hle t ht; omega)
      omega)
    have HD : Hid (DelIs l0 l1 0 0) := Lib.hid (.inl ⟨0, ⟨v0.pos, fun t ht => hle t ht, fun e he => absurd he (by omega)⟩, rfl, rfl⟩)
    clear hk hle e01
    go_enter Try.func14, Try.ntmps14
    go_wp2_with fail
    refine (delay_at _ _ [0, 3] [0, 3] _ _ _ _ 0 0 _ (by decide) del_lit3 (by exact Ints.litA _ _ _ _ _ rfl (by decide)) (by exact Ints.litB _ _ _ _ _ rfl (by decide)) (by decide) (by decide) rfl rfl).mono ?_
    rintro e w1 ⟨rfl, nw1, hww1⟩
    have bw1 := below_of_drewN hww1
    clear hww1
    replace bw1 := below_of2 bw1
    replace h0 := h0.below bw1
    replace h1 := h1.below bw1
    replace hb := below_trans hb bw1
    clear bw1
    go_wp2_with fail
    refine (back_lits _ _ [0, 4] [0, 3] _ _ _ _ 1 _ (by decide) (Lib.hid back_lit3) (by exact Ints.litA _ _ _ _ _ rfl (by decide)) (by exact Ints.litB _ _ _ _ _ rfl (by decide)) rfl rfl).mono ?_
    rintro e w2 ⟨rfl, bw2⟩
    replace bw2 := below_of2 bw2
    replace h0 := h0.below bw2
    replace h1 := h1.below bw2
    replace hb := below_trans hb bw2
    clear bw2
    go_wp2_with fail
    refine (both_any a0 a1 l0 l1 c0 c1 _ h0 h1).mono ?_
    rintro e w' ⟨rfl, rfl⟩
    rw [T1.out]
    go_wp2_with fail
    refine (back_lits a0 a1 l0 l1 _ _ c0 c1 0 _ Q01.out N h0 h1 rfl rfl).mono ?_
    rintro e w3 ⟨rfl, bw3⟩
    replace h0 := h0.below bw3
    replace h1 := h1.below bw3
    replace hb := below_trans hb bw3
    clear bw3
    go_wp2_with fail
    refine (delay_at a0 a1 l0 l1 _ _ c0 c1 0 0 _ Q01.out HD.out h0 h1 k0 k1 rfl rfl).mono ?_
    rintro e w4 ⟨rfl, nw4, hww4⟩
    have bw4 := below_of_drewN hww4
    clear hww4
    replace h0 := h0.below bw4
    replace h1 := h1.below bw4
    replace hb := below_trans hb bw4
    clear bw4
    go_wp2_with fail
    refine (kle_at a0 a1 l0 l1 _ _ _ _ _ h0 h1 rfl rfl).mono ?_
    rintro e w5 ⟨rfl, nw5, hww5⟩
    have bw5 := below_of_drewN hww5
    clear hww5
    replace hb := below_trans hb bw5
    clear bw5
    rw [K.out]
    go_wp2
    go_ret
    exact ⟨rfl, hb⟩

end Go.Proofs.Ytaopeofcmnckfaa
