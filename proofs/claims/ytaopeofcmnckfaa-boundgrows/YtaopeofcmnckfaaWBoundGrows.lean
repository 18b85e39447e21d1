
/-
  The walk of the law BoundGrows.
-/
import Derived.Test.YtaopeofcmnckfaaBoundK
namespace Go.Proofs.Ytaopeofcmnckfaa
set_option linter.all false
open Go.RowKit Go.Shelf


theorem del_lit2 : DelIs [1, 1] [0, 0] 0 5 := del_none (by decide)
theorem back_lit2 : backV [1, 1] [0, 0] = 1 := by decide

set_option maxHeartbeats 3200000 in
theorem walk_BoundGrows (a0 : Option Addr) (c0 : Nat) (l0 : List Int) (a1 : Option Addr) (c1 : Nat) (l1 : List Int) (a2 : Option Addr) (c2 : Nat) (l2 : List Int) (w : World)
    (h0 : Ints w a0 l0) (k0 : l0.length ≤ c0) (h1 : Ints w a1 l1) (k1 : l1.length ≤ c1) (h2 : Ints w a2 l2) (k2 : l2.length ≤ c2) :
    Calls Try.prog 13 #[.slice a0 l0.length c0, .slice a1 l1.length c1, .slice a2 l2.length c2] w fun e w' => e = .returned (.bool true) ∧ Below w.heap.size w w' := by
  have hb : Below w.heap.size w w := Below.refl _ _
  cases t1 : okB l0 l1
  · have T1 := Lib.hid t1
    clear t1
    go_enter Try.func13, Try.ntmps13
    go_wp2_with fail
    refine (delay_at _ _ [1, 1] [0, 0] _ _ _ _ 0 5 _ (by decide) del_lit2 (by exact Ints.litA _ _ _ _ _ rfl (by decide)) (by exact Ints.litB _ _ _ _ _ rfl (by decide)) (by decide) (by decide) rfl rfl).mono ?_
    rintro e w1 ⟨rfl, nw1, hww1⟩
    have bw1 := below_of_drewN hww1
    clear hww1
    replace bw1 := below_of2 bw1
    replace h0 := h0.below bw1
    replace h1 := h1.below bw1
    replace h2 := h2.below bw1
    replace hb := below_trans hb bw1
    clear bw1
    go_wp2_with fail
    refine (back_lits _ _ [1, 1] [0, 0] _ _ _ _ 1 _ (by decide) (Lib.hid back_lit2) (by exact Ints.litA _ _ _ _ _ rfl (by decide)) (by exact Ints.litB _ _ _ _ _ rfl (by decide)) rfl rfl).mono ?_
    rintro e w2 ⟨rfl, bw2⟩
    replace bw2 := below_of2 bw2
    replace h0 := h0.below bw2
    replace h1 := h1.below bw2
    replace h2 := h2.below bw2
    replace hb := below_trans hb bw2
    clear bw2
    go_wp2_with fail
    refine (three_any a0 a1 a2 l0 l1 l2 c0 c1 c2 _ h0 h1 h2).mono ?_
    rintro e w' ⟨rfl, rfl⟩
    rw [T1.out]
    go_wp2
    go_ret
    exact ⟨rfl, hb⟩
  cases t2 : okB l1 l2
  · have T1 := Lib.hid t1
    have T2 := Lib.hid t2
    clear t1 t2
    go_enter Try.func13, Try.ntmps13
    go_wp2_with fail
    refine (delay_at _ _ [1, 1] [0, 0] _ _ _ _ 0 5 _ (by decide) del_lit2 (by exact Ints.litA _ _ _ _ _ rfl (by decide)) (by exact Ints.litB _ _ _ _ _ rfl (by decide)) (by decide) (by decide) rfl rfl).mono ?_
    rintro e w1 ⟨rfl, nw1, hww1⟩
    have bw1 := below_of_drewN hww1
    clear hww1
    replace bw1 := below_of2 bw1
    replace h0 := h0.below bw1
    replace h1 := h1.below bw1
    replace h2 := h2.below bw1
    replace hb := below_trans hb bw1
    clear bw1
    go_wp2_with fail
    refine (back_lits _ _ [1, 1] [0, 0] _ _ _ _ 1 _ (by decide) (Lib.hid back_lit2) (by exact Ints.litA _ _ _ _ _ rfl (by decide)) (by exact Ints.litB _ _ _ _ _ rfl (by decide)) rfl rfl).mono ?_
    rintro e w2 ⟨rfl, bw2⟩
    replace bw2 := below_of2 bw2
    replace h0 := h0.below bw2
    replace h1 := h1.below bw2
    replace h2 := h2.below bw2
    replace hb := below_trans hb bw2
    clear bw2
    go_wp2_with fail
    refine (three_any a0 a1 a2 l0 l1 l2 c0 c1 c2 _ h0 h1 h2).mono ?_
    rintro e w' ⟨rfl, rfl⟩
    rw [T1.out, T2.out]
    go_wp2
    go_ret
    exact ⟨rfl, hb⟩
  obtain ⟨v0, v1, e01⟩ := chk2_iff.1 (chk2_of_okB t1)
  obtain ⟨_, v2, e12⟩ := chk2_iff.1 (chk2_of_okB t2)
  have T1 := Lib.hid t1
  have T2 := Lib.hid t2
  clear t1 t2
  cases hk : leK l0 l1
  · have K := Lib.hid hk
    clear hk e01 e12
    go_enter Try.func13, Try.ntmps13
    go_wp2_with fail
    refine (delay_at _ _ [1, 1] [0, 0] _ _ _ _ 0 5 _ (by decide) del_lit2 (by exact Ints.litA _ _ _ _ _ rfl (by decide)) (by exact Ints.litB _ _ _ _ _ rfl (by decide)) (by decide) (by decide) rfl rfl).mono ?_
    rintro e w1 ⟨rfl, nw1, hww1⟩
    have bw1 := below_of_drewN hww1
    clear hww1
    replace bw1 := below_of2 bw1
    replace h0 := h0.below bw1
    replace h1 := h1.below bw1
    replace h2 := h2.below bw1
    replace hb := below_trans hb bw1
    clear bw1
    go_wp2_with fail
    refine (back_lits _ _ [1, 1] [0, 0] _ _ _ _ 1 _ (by decide) (Lib.hid back_lit2) (by exact Ints.litA _ _ _ _ _ rfl (by decide)) (by exact Ints.litB _ _ _ _ _ rfl (by decide)) rfl rfl).mono ?_
    rintro e w2 ⟨rfl, bw2⟩
    replace bw2 := below_of2 bw2
    replace h0 := h0.below bw2
    replace h1 := h1.below bw2
    replace h2 := h2.below bw2
    replace hb := below_trans hb bw2
    clear bw2
    go_wp2_with fail
    refine (three_any a0 a1 a2 l0 l1 l2 c0 c1 c2 _ h0 h1 h2).mono ?_
    rintro e w' ⟨rfl, rfl⟩
    rw [T1.out, T2.out]
    go_wp2_with fail
    refine (kle_at a0 a1 l0 l1 _ _ _ _ _ h0 h1 rfl rfl).mono ?_
    rintro e w3 ⟨rfl, nw3, hww3⟩
    have bw3 := below_of_drewN hww3
    clear hww3
    replace h0 := h0.below bw3
    replace h1 := h1.below bw3
    replace h2 := h2.below bw3
    replace hb := below_trans hb bw3
    clear bw3
    rw [K.out]
    go_wp2
    go_ret
    exact ⟨rfl, hb⟩
  · have K := Lib.hid hk
    have hle := (leK_iff v0 v1 e01).1 hk
    obtain ⟨m, hm⟩ : ∃ m, m = backV l0 l2 := ⟨_, rfl⟩
    obtain ⟨n, hn⟩ : ∃ n, n = backV l1 l2 := ⟨_, rfl⟩
    obtain ⟨p, hp⟩ : ∃ p, p = backV l2 l1 := ⟨_, rfl⟩
    obtain ⟨q, hq⟩ : ∃ q, q = backV l2 l0 := ⟨_, rfl⟩
    have mn : m ≤ n := by
      rw [hm, hn]
      exact (back_iff (back0 _ _)).2 (fun t ht => by have := hle t ht; have := back_ge (a := l1) (b := l2) (t := t) (by omega); omega)
    have pq : p ≤ q := by
      rw [hp, hq]
      exact (back_iff (back0 _ _)).2 (fun t ht => by have := hle t (by omega); have := back_ge (a := l2) (b := l0) (t := t) ht; omega)
    have M := Lib.hid hm.symm
    have N := Lib.hid hn.symm
    have P := Lib.hid hp.symm
    have Q := Lib.hid hq.symm
    have Q02 := Lib.hid (chk2_iff.2 ⟨v0, v2, by omega⟩)
    have Q12 := Lib.hid (chk2_iff.2 ⟨v1, v2, e12⟩)
    have Q21 := Lib.hid (chk2_iff.2 ⟨v2, v1, e12.symm⟩)
    have Q20 := Lib.hid (chk2_iff.2 ⟨v2, v0, by omega⟩)
    obtain ⟨d, E, hd⟩ := ex_delIs l0 l2
    obtain ⟨x, X, hx⟩ := ex_delIs l1 l2
    have HD := Lib.hid hd
    have HX := Lib.hid hx
    rcases hx with ⟨x', ix, rfl, rfl⟩ | ⟨_, rfl, rfl⟩
    · have ok : Del l0 l2 x' := fun t ht => by
        have h1 := hle t (by omega); have h2 := ix.ok t (by omega); omega
      have lx := ix.lt
      rcases hd with ⟨d', id, rfl, rfl⟩ | ⟨no, _, _⟩
      · have dx : (d' : Int) ≤ (x' : Int) := by have := id.le ok; omega
        clear hk hle hm hn hp hq e01 e12 ok ix id lx
        go_enter Try.func13, Try.ntmps13
        go_wp2_with fail
        refine (delay_at _ _ [1, 1] [0, 0] _ _ _ _ 0 5 _ (by decide) del_lit2 (by exact Ints.litA _ _ _ _ _ rfl (by decide)) (by exact Ints.litB _ _ _ _ _ rfl (by decide)) (by decide) (by decide) rfl rfl).mono ?_
        rintro e w1 ⟨rfl, nw1, hww1⟩
        have bw1 := below_of_drewN hww1
        clear hww1
        replace bw1 := below_of2 bw1
        replace h0 := h0.below bw1
        replace h1 := h1.below bw1
        replace h2 := h2.below bw1
        replace hb := below_trans hb bw1
        clear bw1
        go_wp2_with fail
        refine (back_lits _ _ [1, 1] [0, 0] _ _ _ _ 1 _ (by decide) (Lib.hid back_lit2) (by exact Ints.litA _ _ _ _ _ rfl (by decide)) (by exact Ints.litB _ _ _ _ _ rfl (by decide)) rfl rfl).mono ?_
        rintro e w2 ⟨rfl, bw2⟩
        replace bw2 := below_of2 bw2
        replace h0 := h0.below bw2
        replace h1 := h1.below bw2
        replace h2 := h2.below bw2
        replace hb := below_trans hb bw2
        clear bw2
        go_wp2_with fail
        refine (three_any a0 a1 a2 l0 l1 l2 c0 c1 c2 _ h0 h1 h2).mono ?_
        rintro e w' ⟨rfl, rfl⟩
        rw [T1.out, T2.out]
        go_wp2_with fail
        refine (kle_at a0 a1 l0 l1 _ _ _ _ _ h0 h1 rfl rfl).mono ?_
        rintro e w3 ⟨rfl, nw3, hww3⟩
        have bw3 := below_of_drewN hww3
        clear hww3
        replace h0 := h0.below bw3
        replace h1 := h1.below bw3
        replace h2 := h2.below bw3
        replace hb := below_trans hb bw3
        clear bw3
        rw [K.out]
        go_wp2_with fail
        refine (back_lits a0 a2 l0 l2 _ _ c0 c2 m _ Q02.out M h0 h2 rfl rfl).mono ?_
        rintro e w4 ⟨rfl, bw4⟩
        replace h0 := h0.below bw4
        replace h1 := h1.below bw4
        replace h2 := h2.below bw4
        replace hb := below_trans hb bw4
        clear bw4
        go_wp2_with fail
        refine (back_lits a1 a2 l1 l2 _ _ c1 c2 n _ Q12.out N h1 h2 rfl rfl).mono ?_
        rintro e w5 ⟨rfl, bw5⟩
        replace h0 := h0.below bw5
        replace h1 := h1.below bw5
        replace h2 := h2.below bw5
        replace hb := below_trans hb bw5
        clear bw5
        go_wp2_with fail
        refine (back_lits a2 a1 l2 l1 _ _ c2 c1 p _ Q21.out P h2 h1 rfl rfl).mono ?_
        rintro e w6 ⟨rfl, bw6⟩
        replace h0 := h0.below bw6
        replace h1 := h1.below bw6
        replace h2 := h2.below bw6
        replace hb := below_trans hb bw6
        clear bw6
        go_wp2_with fail
        refine (back_lits a2 a0 l2 l0 _ _ c2 c0 q _ Q20.out Q h2 h0 rfl rfl).mono ?_
        rintro e w7 ⟨rfl, bw7⟩
        replace h0 := h0.below bw7
        replace h1 := h1.below bw7
        replace h2 := h2.below bw7
        replace hb := below_trans hb bw7
        clear bw7
        go_wp2_with fail
        refine (delay_at a0 a2 l0 l2 _ _ c0 c2 d' 0 _ Q02.out HD.out h0 h2 k0 k2 rfl rfl).mono ?_
        rintro e w8 ⟨rfl, nw8, hww8⟩
        have bw8 := below_of_drewN hww8
        clear hww8
        replace h0 := h0.below bw8
        replace h1 := h1.below bw8
        replace h2 := h2.below bw8
        replace hb := below_trans hb bw8
        clear bw8
        go_wp2_with fail
        refine (delay_at a1 a2 l1 l2 _ _ c1 c2 x' 0 _ Q12.out HX.out h1 h2 k1 k2 rfl rfl).mono ?_
        rintro e w9 ⟨rfl, nw9, hww9⟩
        have bw9 := below_of_drewN hww9
        clear hww9
        replace hb := below_trans hb bw9
        clear bw9
        go_wp2
        go_ret
        exact ⟨rfl, hb⟩
      · exact absurd ok (no x' (by omega))
    · clear hk hle hm hn hp hq e01 e12 hd
      go_enter Try.func13, Try.ntmps13
      go_wp2_with fail
      refine (delay_at _ _ [1, 1] [0, 0] _ _ _ _ 0 5 _ (by decide) del_lit2 (by exact Ints.litA _ _ _ _ _ rfl (by decide)) (by exact Ints.litB _ _ _ _ _ rfl (by decide)) (by decide) (by decide) rfl rfl).mono ?_
      rintro e w1 ⟨rfl, nw1, hww1⟩
      have bw1 := below_of_drewN hww1
      clear hww1
      replace bw1 := below_of2 bw1
      replace h0 := h0.below bw1
      replace h1 := h1.below bw1
      replace h2 := h2.below bw1
      replace hb := below_trans hb bw1
      clear bw1
      go_wp2_with fail
      refine (back_lits _ _ [1, 1] [0, 0] _ _ _ _ 1 _ (by decide) (Lib.hid back_lit2) (by exact Ints.litA _ _ _ _ _ rfl (by decide)) (by exact Ints.litB _ _ _ _ _ rfl (by decide)) rfl rfl).mono ?_
      rintro e w2 ⟨rfl, bw2⟩
      replace bw2 := below_of2 bw2
      replace h0 := h0.below bw2
      replace h1 := h1.below bw2
      replace h2 := h2.below bw2
      replace hb := below_trans hb bw2
      clear bw2
      go_wp2_with fail
      refine (three_any a0 a1 a2 l0 l1 l2 c0 c1 c2 _ h0 h1 h2).mono ?_
      rintro e w' ⟨rfl, rfl⟩
      rw [T1.out, T2.out]
      go_wp2_with fail
      refine (kle_at a0 a1 l0 l1 _ _ _ _ _ h0 h1 rfl rfl).mono ?_
      rintro e w3 ⟨rfl, nw3, hww3⟩
      have bw3 := below_of_drewN hww3
      clear hww3
      replace h0 := h0.below bw3
      replace h1 := h1.below bw3
      replace h2 := h2.below bw3
      replace hb := below_trans hb bw3
      clear bw3
      rw [K.out]
      go_wp2_with fail
      refine (back_lits a0 a2 l0 l2 _ _ c0 c2 m _ Q02.out M h0 h2 rfl rfl).mono ?_
      rintro e w4 ⟨rfl, bw4⟩
      replace h0 := h0.below bw4
      replace h1 := h1.below bw4
      replace h2 := h2.below bw4
      replace hb := below_trans hb bw4
      clear bw4
      go_wp2_with fail
      refine (back_lits a1 a2 l1 l2 _ _ c1 c2 n _ Q12.out N h1 h2 rfl rfl).mono ?_
      rintro e w5 ⟨rfl, bw5⟩
      replace h0 := h0.below bw5
      replace h1 := h1.below bw5
      replace h2 := h2.below bw5
      replace hb := below_trans hb bw5
      clear bw5
      go_wp2_with fail
      refine (back_lits a2 a1 l2 l1 _ _ c2 c1 p _ Q21.out P h2 h1 rfl rfl).mono ?_
      rintro e w6 ⟨rfl, bw6⟩
      replace h0 := h0.below bw6
      replace h1 := h1.below bw6
      replace h2 := h2.below bw6
      replace hb := below_trans hb bw6
      clear bw6
      go_wp2_with fail
      refine (back_lits a2 a0 l2 l0 _ _ c2 c0 q _ Q20.out Q h2 h0 rfl rfl).mono ?_
      rintro e w7 ⟨rfl, bw7⟩
      replace h0 := h0.below bw7
      replace h1 := h1.below bw7
      replace h2 := h2.below bw7
      replace hb := below_trans hb bw7
      clear bw7
      go_wp2_with fail
      refine (delay_at a0 a2 l0 l2 _ _ c0 c2 d E _ Q02.out HD.out h0 h2 k0 k2 rfl rfl).mono ?_
      rintro e w8 ⟨rfl, nw8, hww8⟩
      have bw8 := below_of_drewN hww8
      clear hww8
      replace h0 := h0.below bw8
      replace h1 := h1.below bw8
      replace h2 := h2.below bw8
      replace hb := below_trans hb bw8
      clear bw8
      go_wp2_with fail
      refine (delay_at a1 a2 l1 l2 _ _ c1 c2 0 5 _ Q12.out HX.out h1 h2 k1 k2 rfl rfl).mono ?_
      rintro e w9 ⟨rfl, nw9, hww9⟩
      have bw9 := below_of_drewN hww9
      clear hww9
      replace hb := below_trans hb bw9
      clear bw9
      go_wp2
      go_ret
      exact ⟨rfl, hb⟩

end Go.Proofs.Ytaopeofcmnckfaa
