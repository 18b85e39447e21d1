
/-
  The walk of the law BoundBack.
-/
import Derived.Test.YtaopeofcmnckfaaBoundK
namespace Go.Proofs.Ytaopeofcmnckfaa
set_option linter.all false
open Go.RowKit Go.Shelf


theorem back_lit : backV [0, 5, 6] [0, 1, 4] = 4 := by decide

set_option maxHeartbeats 3200000 in
theorem walk_BoundBack (a0 : Option Addr) (c0 : Nat) (l0 : List Int) (a1 : Option Addr) (c1 : Nat) (l1 : List Int) (a2 : Option Addr) (c2 : Nat) (l2 : List Int) (a3 : Option Addr) (c3 : Nat) (l3 : List Int) (w : World)
    (h0 : Ints w a0 l0) (k0 : l0.length ≤ c0) (h1 : Ints w a1 l1) (k1 : l1.length ≤ c1) (h2 : Ints w a2 l2) (k2 : l2.length ≤ c2) (h3 : Ints w a3 l3) (k3 : l3.length ≤ c3) :
    Calls Try.prog 10 #[.slice a0 l0.length c0, .slice a1 l1.length c1, .slice a2 l2.length c2, .slice a3 l3.length c3] w fun e w' => e = .returned (.bool true) ∧ Below w.heap.size w w' := by
  have hb : Below w.heap.size w w := Below.refl _ _
  cases t1 : okB l0 l1
  · have T1 := Lib.hid t1
    clear t1
    go_enter Try.func10, Try.ntmps10
    go_wp2_with fail
    refine (back_lits _ _ [0, 5, 6] [0, 1, 4] _ _ _ _ 4 _ (by decide) (Lib.hid back_lit) (by exact Ints.litA _ _ _ _ _ rfl (by decide)) (by exact Ints.litB _ _ _ _ _ rfl (by decide)) rfl rfl).mono ?_
    rintro e w1 ⟨rfl, bw1⟩
    replace bw1 := below_of2 bw1
    replace h0 := h0.below bw1
    replace h1 := h1.below bw1
    replace h2 := h2.below bw1
    replace h3 := h3.below bw1
    replace hb := below_trans hb bw1
    clear bw1
    go_wp2_with fail
    refine (three_any a0 a1 a2 l0 l1 l2 c0 c1 c2 _ h0 h1 h2).mono ?_
    rintro e w' ⟨rfl, rfl⟩
    rw [T1.out]
    go_wp2
    go_ret
    exact ⟨rfl, hb⟩
  cases t2 : okB l1 l2
  · have T1 := Lib.hid t1
    have T2 := Lib.hid t2
    clear t1 t2
    go_enter Try.func10, Try.ntmps10
    go_wp2_with fail
    refine (back_lits _ _ [0, 5, 6] [0, 1, 4] _ _ _ _ 4 _ (by decide) (Lib.hid back_lit) (by exact Ints.litA _ _ _ _ _ rfl (by decide)) (by exact Ints.litB _ _ _ _ _ rfl (by decide)) rfl rfl).mono ?_
    rintro e w1 ⟨rfl, bw1⟩
    replace bw1 := below_of2 bw1
    replace h0 := h0.below bw1
    replace h1 := h1.below bw1
    replace h2 := h2.below bw1
    replace h3 := h3.below bw1
    replace hb := below_trans hb bw1
    clear bw1
    go_wp2_with fail
    refine (three_any a0 a1 a2 l0 l1 l2 c0 c1 c2 _ h0 h1 h2).mono ?_
    rintro e w' ⟨rfl, rfl⟩
    rw [T1.out, T2.out]
    go_wp2
    go_ret
    exact ⟨rfl, hb⟩
  obtain ⟨v0, v1, e01⟩ := chk2_iff.1 (chk2_of_okB t1)
  obtain ⟨_, v2, e12⟩ := chk2_iff.1 (chk2_of_okB t2)
  have T1 := Lib.hid t1
  have T2 := Lib.hid t2
  clear t1 t2
  obtain ⟨d, s, sv⟩ := ex_sv l3 v0 v2 (by omega)
  have SV := Lib.hid sv
  obtain ⟨n, hn⟩ : ∃ n, n = backV l1 l2 := ⟨_, rfl⟩
  have N := Lib.hid hn.symm
  have E01 := Lib.hid e01
  have Q12 := Lib.hid (chk2_iff.2 ⟨v1, v2, e12⟩)
  cases s1 : fitB l0 l1
  · have S1 := Lib.hid s1
    clear s1 sv hn e01 e12
    go_enter Try.func10, Try.ntmps10
    go_wp2_with fail
    refine (back_lits _ _ [0, 5, 6] [0, 1, 4] _ _ _ _ 4 _ (by decide) (Lib.hid back_lit) (by exact Ints.litA _ _ _ _ _ rfl (by decide)) (by exact Ints.litB _ _ _ _ _ rfl (by decide)) rfl rfl).mono ?_
    rintro e w1 ⟨rfl, bw1⟩
    replace bw1 := below_of2 bw1
    replace h0 := h0.below bw1
    replace h1 := h1.below bw1
    replace h2 := h2.below bw1
    replace h3 := h3.below bw1
    replace hb := below_trans hb bw1
    clear bw1
    go_wp2_with fail
    refine (three_any a0 a1 a2 l0 l1 l2 c0 c1 c2 _ h0 h1 h2).mono ?_
    rintro e w' ⟨rfl, rfl⟩
    rw [T1.out, T2.out]
    go_wp2_with fail
    refine (fits_yes a0 a1 l0 l1 _ _ c0 c1 false _ v0 v1 E01.out S1 h0 h1 k0 rfl rfl).mono ?_
    rintro e w2 ⟨rfl, bw2⟩
    replace h0 := h0.below bw2
    replace h1 := h1.below bw2
    replace h2 := h2.below bw2
    replace h3 := h3.below bw2
    replace hb := below_trans hb bw2
    clear bw2
    go_wp2_with fail
    refine (SV.out.call a0 a2 a3 c0 c2 c3 _ h0 h2 h3).mono ?_
    rintro e w3 ⟨Ad, cd, rfl, od, bd⟩
    replace h0 := h0.below bd
    replace h1 := h1.below bd
    replace h2 := h2.below bd
    replace h3 := h3.below bd
    replace hb := below_trans hb bd
    have hd := Ints.of_own od
    have kd := own_cap od
    clear bd od
    go_wp2_with fail
    refine (back_lits a1 a2 l1 l2 _ _ c1 c2 n _ Q12.out N h1 h2 rfl rfl).mono ?_
    rintro e w4 ⟨rfl, bw4⟩
    replace h0 := h0.below bw4
    replace h1 := h1.below bw4
    replace h2 := h2.below bw4
    replace h3 := h3.below bw4
    replace hd := hd.below bw4
    replace hb := below_trans hb bw4
    clear bw4
    go_wp2
    go_ret
    exact ⟨rfl, hb⟩
  · have S1 := Lib.hid s1
    cases s
    · clear s1 sv hn e01 e12
      go_enter Try.func10, Try.ntmps10
      go_wp2_with fail
      refine (back_lits _ _ [0, 5, 6] [0, 1, 4] _ _ _ _ 4 _ (by decide) (Lib.hid back_lit) (by exact Ints.litA _ _ _ _ _ rfl (by decide)) (by exact Ints.litB _ _ _ _ _ rfl (by decide)) rfl rfl).mono ?_
      rintro e w1 ⟨rfl, bw1⟩
      replace bw1 := below_of2 bw1
      replace h0 := h0.below bw1
      replace h1 := h1.below bw1
      replace h2 := h2.below bw1
      replace h3 := h3.below bw1
      replace hb := below_trans hb bw1
      clear bw1
      go_wp2_with fail
      refine (three_any a0 a1 a2 l0 l1 l2 c0 c1 c2 _ h0 h1 h2).mono ?_
      rintro e w' ⟨rfl, rfl⟩
      rw [T1.out, T2.out]
      go_wp2_with fail
      refine (fits_yes a0 a1 l0 l1 _ _ c0 c1 true _ v0 v1 E01.out S1 h0 h1 k0 rfl rfl).mono ?_
      rintro e w2 ⟨rfl, bw2⟩
      replace h0 := h0.below bw2
      replace h1 := h1.below bw2
      replace h2 := h2.below bw2
      replace h3 := h3.below bw2
      replace hb := below_trans hb bw2
      clear bw2
      go_wp2_with fail
      refine (SV.out.call a0 a2 a3 c0 c2 c3 _ h0 h2 h3).mono ?_
      rintro e w3 ⟨Ad, cd, rfl, od, bd⟩
      replace h0 := h0.below bd
      replace h1 := h1.below bd
      replace h2 := h2.below bd
      replace h3 := h3.below bd
      replace hb := below_trans hb bd
      have hd := Ints.of_own od
      have kd := own_cap od
      clear bd od
      go_wp2_with fail
      refine (back_lits a1 a2 l1 l2 _ _ c1 c2 n _ Q12.out N h1 h2 rfl rfl).mono ?_
      rintro e w4 ⟨rfl, bw4⟩
      replace h0 := h0.below bw4
      replace h1 := h1.below bw4
      replace h2 := h2.below bw4
      replace h3 := h3.below bw4
      replace hd := hd.below bw4
      replace hb := below_trans hb bw4
      clear bw4
      go_wp2
      go_ret
      exact ⟨rfl, hb⟩
    · obtain ⟨x, zx, vd, ed, hxd, hdf⟩ := sv.yes rfl
      obtain ⟨m, hm⟩ : ∃ m, m = backV l0 d := ⟨_, rfl⟩
      have M := Lib.hid hm.symm
      have mn : m ≤ n := by rw [hm, hn]; exact cruz_back v0 ((fitB_iff v0 v1 e01).1 s1) zx e01 hxd
      have QD := Lib.hid (chk2_iff.2 ⟨v0, vd, ed.symm⟩)
      clear s1 sv hn e01 e12 zx hxd hdf ed hm
      go_enter Try.func10, Try.ntmps10
      go_wp2_with fail
      refine (back_lits _ _ [0, 5, 6] [0, 1, 4] _ _ _ _ 4 _ (by decide) (Lib.hid back_lit) (by exact Ints.litA _ _ _ _ _ rfl (by decide)) (by exact Ints.litB _ _ _ _ _ rfl (by decide)) rfl rfl).mono ?_
      rintro e w1 ⟨rfl, bw1⟩
      replace bw1 := below_of2 bw1
      replace h0 := h0.below bw1
      replace h1 := h1.below bw1
      replace h2 := h2.below bw1
      replace h3 := h3.below bw1
      replace hb := below_trans hb bw1
      clear bw1
      go_wp2_with fail
      refine (three_any a0 a1 a2 l0 l1 l2 c0 c1 c2 _ h0 h1 h2).mono ?_
      rintro e w' ⟨rfl, rfl⟩
      rw [T1.out, T2.out]
      go_wp2_with fail
      refine (fits_yes a0 a1 l0 l1 _ _ c0 c1 true _ v0 v1 E01.out S1 h0 h1 k0 rfl rfl).mono ?_
      rintro e w2 ⟨rfl, bw2⟩
      replace h0 := h0.below bw2
      replace h1 := h1.below bw2
      replace h2 := h2.below bw2
      replace h3 := h3.below bw2
      replace hb := below_trans hb bw2
      clear bw2
      go_wp2_with fail
      refine (SV.out.call a0 a2 a3 c0 c2 c3 _ h0 h2 h3).mono ?_
      rintro e w3 ⟨Ad, cd, rfl, od, bd⟩
      replace h0 := h0.below bd
      replace h1 := h1.below bd
      replace h2 := h2.below bd
      replace h3 := h3.below bd
      replace hb := below_trans hb bd
      have hd := Ints.of_own od
      have kd := own_cap od
      clear bd od
      go_wp2_with fail
      refine (back_lits a1 a2 l1 l2 _ _ c1 c2 n _ Q12.out N h1 h2 rfl rfl).mono ?_
      rintro e w4 ⟨rfl, bw4⟩
      replace h0 := h0.below bw4
      replace h1 := h1.below bw4
      replace h2 := h2.below bw4
      replace h3 := h3.below bw4
      replace hd := hd.below bw4
      replace hb := below_trans hb bw4
      clear bw4
      go_wp2_with fail
      refine (back_lits a0 Ad l0 d _ _ c0 cd m _ QD.out M h0 hd rfl rfl).mono ?_
      rintro e w5 ⟨rfl, bw5⟩
      replace hb := below_trans hb bw5
      clear bw5
      go_wp2
      go_ret
      exact ⟨rfl, hb⟩

end Go.Proofs.Ytaopeofcmnckfaa
