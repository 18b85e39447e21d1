/-
  The walk of the law CurveTells.
-/
import Derived.Test.YthigjcbdlijfbaaCurveC
namespace Go.Proofs.Ythigjcbdlijfbaa
open Go.RowKit

theorem Ints.take {w : World} {A : Option Addr} {l : List Int} (h : Ints w A l) (n : Nat) : Ints w A (l.take n) := by
  refine ⟨by have := h.1; simp; omega, fun h0 => ?_⟩
  simp at h0
  obtain ⟨b, off, rfl, hc⟩ := h.2 (by omega)
  refine ⟨b, off, rfl, fun j hj => ?_⟩
  simp at hj
  rw [hc j (by omega)]
  simp [List.getD, show j < n by omega]


set_option maxHeartbeats 1600000 in
theorem walk_CurveTells (a0 : Option Addr) (c0 : Nat) (l0 : List Int) (a1 : Option Addr) (c1 : Nat) (l1 : List Int) (t : Int) (w : World)
    (h0 : Ints w a0 l0) (k0 : l0.length ≤ c0) (h1 : Ints w a1 l1) (_k1 : l1.length ≤ c1) (_ht : (Lit.int .i64 t).wf = true) :
    Calls Try.prog 4 #[.slice a0 l0.length c0, .slice a1 l1.length c1, .int .i64 t] w fun e w' => e = .returned (.bool true) ∧ Below w.heap.size w w' := by
  have hb : Below w.heap.size w w := Below.refl _ _
  by_cases g1 : chk2 l0 l1 = 0
  · have G1 := Lib.hid g1
    have hle := Nat.le_of_eq (chk2_len g1)
    have hk : chk l0 = 0 := by
      unfold chk2 at g1
      split at g1
      · exact g1
      · rename_i h; simpa using h
    have hd : decide (chk2 l0 l1 = 0) = true := decide_eq_true g1
    have HD : Hid ((decide (chk2 l0 l1 = 0) && leB l0 l1) = leB l0 l1) := Lib.hid (by rw [hd]; rfl)
    have e1 : (leB l0 l1 != leB l0 l1) = false := by simp
    clear g1 hd
    have hk' : (chk l0 == 0) = true := by simp [hk]
    obtain ⟨hpos, h61⟩ := chk_len hk
    by_cases h2 : t < 0
    · have HE : Hid (cutE l0 t = 1) := Lib.hid (by simp [cutE, hk, h2])
      have HL : Hid (cutL l0 t = []) := Lib.hid (by simp [cutL, HE.out])
      clear hk
      have e2 : decide (t < 0) = true := decide_eq_true h2
      go_enter Try.func4, Try.ntmps4
      go_wp2_with fail
      refine (le_any _ a1 l0 l1 c0 c1 _ h0 h1).mono ?_
      rintro e w1 ⟨rfl, nw1, hww1⟩
      have bw1 := below_of_drewN hww1
      clear hww1
      replace h0 := h0.below bw1
      replace h1 := h1.below bw1
      replace hb := below_trans hb bw1
      clear bw1
      rw [HD.out, G1.out]
      go_wp2_with fail
      refine (refCurves_any _ a1 l0 l1 c0 c1 _ h0 h1).mono ?_
      rintro e w' ⟨rfl, rfl⟩
      rw [G1.out]
      go_wp2_with fail
      refine (refLe_any _ a1 l0 l1 c0 c1 _ h0 h1 hle).mono ?_
      rintro e w2 ⟨rfl, nw2, hww2⟩
      have bw2 := below_of_drewN hww2
      clear hww2
      replace h0 := h0.below bw2
      replace h1 := h1.below bw2
      replace hb := below_trans hb bw2
      clear bw2
      go_wp2_with fail
      refine (cut_any a0 l0 c0 t _ h0).mono ?_
      rintro e w3 ⟨Ax, cx, rfl, ox, bw3⟩
      replace h0 := h0.below bw3
      replace h1 := h1.below bw3
      replace hb := below_trans hb bw3
      have hx := Ints.of_own ox
      clear bw3 ox
      rw [HE.out, HL.out]
      go_wp2_with fail
      refine (refCurve_any a0 l0 c0 _ h0).mono ?_
      rintro e w' ⟨rfl, rfl⟩
      go_wp2
      go_ret
      exact ⟨rfl, hb⟩
    by_cases h3 : (l0.length : Int) ≤ t
    · have HE : Hid (cutE l0 t = 1) := Lib.hid (by simp [cutE, hk, h3])
      have HL : Hid (cutL l0 t = []) := Lib.hid (by simp [cutL, HE.out])
      clear hk
      have e2 : decide (t < 0) = false := decide_eq_false h2
      have e3 : decide ((l0.length : Int) ≤ t) = true := decide_eq_true h3
      go_enter Try.func4, Try.ntmps4
      go_wp2_with fail
      refine (le_any _ a1 l0 l1 c0 c1 _ h0 h1).mono ?_
      rintro e w1 ⟨rfl, nw1, hww1⟩
      have bw1 := below_of_drewN hww1
      clear hww1
      replace h0 := h0.below bw1
      replace h1 := h1.below bw1
      replace hb := below_trans hb bw1
      clear bw1
      rw [HD.out, G1.out]
      go_wp2_with fail
      refine (refCurves_any _ a1 l0 l1 c0 c1 _ h0 h1).mono ?_
      rintro e w' ⟨rfl, rfl⟩
      rw [G1.out]
      go_wp2_with fail
      refine (refLe_any _ a1 l0 l1 c0 c1 _ h0 h1 hle).mono ?_
      rintro e w2 ⟨rfl, nw2, hww2⟩
      have bw2 := below_of_drewN hww2
      clear hww2
      replace h0 := h0.below bw2
      replace h1 := h1.below bw2
      replace hb := below_trans hb bw2
      clear bw2
      go_wp2_with fail
      refine (cut_any a0 l0 c0 t _ h0).mono ?_
      rintro e w3 ⟨Ax, cx, rfl, ox, bw3⟩
      replace h0 := h0.below bw3
      replace h1 := h1.below bw3
      replace hb := below_trans hb bw3
      have hx := Ints.of_own ox
      clear bw3 ox
      rw [HE.out, HL.out]
      go_wp2_with fail
      refine (refCurve_any a0 l0 c0 _ h0).mono ?_
      rintro e w' ⟨rfl, rfl⟩
      go_wp2
      go_ret
      exact ⟨rfl, hb⟩
    obtain ⟨n, rfl⟩ := Int.eq_ofNat_of_zero_le (show 0 ≤ t by omega)
    have hn : n < l0.length := by omega
    have HE : Hid (cutE l0 n = 0) := Lib.hid (by simp [cutE, hk]; omega)
    have HL : Hid (cutL l0 n = l0.take (n + 1)) := Lib.hid (by simp [cutL, HE.out])
    have e2 : decide ((n : Int) < 0) = false := decide_eq_false h2
    have e3 : decide ((l0.length : Int) ≤ n) = false := decide_eq_false h3
    have HK := Lib.hid hk
    clear hk
    obtain ⟨b, off, rfl, hc⟩ := h0.2 hpos
    clear hc
    go_enter Try.func4, Try.ntmps4
    go_wp2_with fail
    refine (le_any _ a1 l0 l1 c0 c1 _ h0 h1).mono ?_
    rintro e w1 ⟨rfl, nw1, hww1⟩
    have bw1 := below_of_drewN hww1
    clear hww1
    replace h0 := h0.below bw1
    replace h1 := h1.below bw1
    replace hb := below_trans hb bw1
    clear bw1
    rw [HD.out, G1.out]
    go_wp2_with fail
    refine (refCurves_any _ a1 l0 l1 c0 c1 _ h0 h1).mono ?_
    rintro e w' ⟨rfl, rfl⟩
    rw [G1.out]
    go_wp2_with fail
    refine (refLe_any _ a1 l0 l1 c0 c1 _ h0 h1 hle).mono ?_
    rintro e w2 ⟨rfl, nw2, hww2⟩
    have bw2 := below_of_drewN hww2
    clear hww2
    replace h0 := h0.below bw2
    replace h1 := h1.below bw2
    replace hb := below_trans hb bw2
    clear bw2
    go_wp2_with fail
    refine (cut_any _ l0 c0 n _ h0).mono ?_
    rintro e w3 ⟨Ax, cx, rfl, ox, bw3⟩
    replace h0 := h0.below bw3
    replace h1 := h1.below bw3
    replace hb := below_trans hb bw3
    have hx := Ints.of_own ox
    clear bw3 ox
    rw [HE.out, HL.out]
    rw [HL.out] at hx
    go_wp2_with fail
    refine (refCurve_any _ l0 c0 _ h0).mono ?_
    rintro e w' ⟨rfl, rfl⟩
    rw [HK.out]
    go_wp2_with fail
    refine (equal_at Ax _ (l0.take (n + 1)) (l0.take (n + 1)) (min (n + 1) l0.length) (n + 1) cx c0 _ hx (h0.take _) (by simp) (by simp; omega)).mono ?_
    rintro e w4 ⟨rfl, nw4, hww4⟩
    have bw4 := below_of_drewN hww4
    clear hww4
    replace hb := below_trans hb bw4
    clear bw4
    go_wp2
    go_ret
    exact ⟨rfl, hb⟩
  · have G1 : (chk2 l0 l1 != 0) = true := by simp [g1]
    have hd : decide (chk2 l0 l1 = 0) = false := decide_eq_false g1
    have HD : Hid ((decide (chk2 l0 l1 = 0) && leB l0 l1) = false) := Lib.hid (by rw [hd]; rfl)
    have e1 : (chk2 l0 l1 != chk2 l0 l1) = false := by simp
    clear g1 hd
    by_cases hk : chk l0 = 0
    · have hk' : (chk l0 == 0) = true := by simp [hk]
      obtain ⟨hpos, h61⟩ := chk_len hk
      by_cases h2 : t < 0
      · have HE : Hid (cutE l0 t = 1) := Lib.hid (by simp [cutE, hk, h2])
        have HL : Hid (cutL l0 t = []) := Lib.hid (by simp [cutL, HE.out])
        clear hk
        have e2 : decide (t < 0) = true := decide_eq_true h2
        go_enter Try.func4, Try.ntmps4
        go_wp2_with fail
        refine (le_any _ a1 l0 l1 c0 c1 _ h0 h1).mono ?_
        rintro e w1 ⟨rfl, nw1, hww1⟩
        have bw1 := below_of_drewN hww1
        clear hww1
        replace h0 := h0.below bw1
        replace h1 := h1.below bw1
        replace hb := below_trans hb bw1
        clear bw1
        rw [HD.out]
        go_wp2_with fail
        refine (refCurves_any _ a1 l0 l1 c0 c1 _ h0 h1).mono ?_
        rintro e w' ⟨rfl, rfl⟩
        go_wp2_with fail
        refine (cut_any a0 l0 c0 t _ h0).mono ?_
        rintro e w3 ⟨Ax, cx, rfl, ox, bw3⟩
        replace h0 := h0.below bw3
        replace h1 := h1.below bw3
        replace hb := below_trans hb bw3
        have hx := Ints.of_own ox
        clear bw3 ox
        rw [HE.out, HL.out]
        go_wp2_with fail
        refine (refCurve_any a0 l0 c0 _ h0).mono ?_
        rintro e w' ⟨rfl, rfl⟩
        go_wp2
        go_ret
        exact ⟨rfl, hb⟩
      by_cases h3 : (l0.length : Int) ≤ t
      · have HE : Hid (cutE l0 t = 1) := Lib.hid (by simp [cutE, hk, h3])
        have HL : Hid (cutL l0 t = []) := Lib.hid (by simp [cutL, HE.out])
        clear hk
        have e2 : decide (t < 0) = false := decide_eq_false h2
        have e3 : decide ((l0.length : Int) ≤ t) = true := decide_eq_true h3
        go_enter Try.func4, Try.ntmps4
        go_wp2_with fail
        refine (le_any _ a1 l0 l1 c0 c1 _ h0 h1).mono ?_
        rintro e w1 ⟨rfl, nw1, hww1⟩
        have bw1 := below_of_drewN hww1
        clear hww1
        replace h0 := h0.below bw1
        replace h1 := h1.below bw1
        replace hb := below_trans hb bw1
        clear bw1
        rw [HD.out]
        go_wp2_with fail
        refine (refCurves_any _ a1 l0 l1 c0 c1 _ h0 h1).mono ?_
        rintro e w' ⟨rfl, rfl⟩
        go_wp2_with fail
        refine (cut_any a0 l0 c0 t _ h0).mono ?_
        rintro e w3 ⟨Ax, cx, rfl, ox, bw3⟩
        replace h0 := h0.below bw3
        replace h1 := h1.below bw3
        replace hb := below_trans hb bw3
        have hx := Ints.of_own ox
        clear bw3 ox
        rw [HE.out, HL.out]
        go_wp2_with fail
        refine (refCurve_any a0 l0 c0 _ h0).mono ?_
        rintro e w' ⟨rfl, rfl⟩
        go_wp2
        go_ret
        exact ⟨rfl, hb⟩
      obtain ⟨n, rfl⟩ := Int.eq_ofNat_of_zero_le (show 0 ≤ t by omega)
      have hn : n < l0.length := by omega
      have HE : Hid (cutE l0 n = 0) := Lib.hid (by simp [cutE, hk]; omega)
      have HL : Hid (cutL l0 n = l0.take (n + 1)) := Lib.hid (by simp [cutL, HE.out])
      have e2 : decide ((n : Int) < 0) = false := decide_eq_false h2
      have e3 : decide ((l0.length : Int) ≤ n) = false := decide_eq_false h3
      have HK := Lib.hid hk
      clear hk
      obtain ⟨b, off, rfl, hc⟩ := h0.2 hpos
      clear hc
      go_enter Try.func4, Try.ntmps4
      go_wp2_with fail
      refine (le_any _ a1 l0 l1 c0 c1 _ h0 h1).mono ?_
      rintro e w1 ⟨rfl, nw1, hww1⟩
      have bw1 := below_of_drewN hww1
      clear hww1
      replace h0 := h0.below bw1
      replace h1 := h1.below bw1
      replace hb := below_trans hb bw1
      clear bw1
      rw [HD.out]
      go_wp2_with fail
      refine (refCurves_any _ a1 l0 l1 c0 c1 _ h0 h1).mono ?_
      rintro e w' ⟨rfl, rfl⟩
      go_wp2_with fail
      refine (cut_any _ l0 c0 n _ h0).mono ?_
      rintro e w3 ⟨Ax, cx, rfl, ox, bw3⟩
      replace h0 := h0.below bw3
      replace h1 := h1.below bw3
      replace hb := below_trans hb bw3
      have hx := Ints.of_own ox
      clear bw3 ox
      rw [HE.out, HL.out]
      rw [HL.out] at hx
      go_wp2_with fail
      refine (refCurve_any _ l0 c0 _ h0).mono ?_
      rintro e w' ⟨rfl, rfl⟩
      rw [HK.out]
      go_wp2_with fail
      refine (equal_at Ax _ (l0.take (n + 1)) (l0.take (n + 1)) (min (n + 1) l0.length) (n + 1) cx c0 _ hx (h0.take _) (by simp) (by simp; omega)).mono ?_
      rintro e w4 ⟨rfl, nw4, hww4⟩
      have bw4 := below_of_drewN hww4
      clear hww4
      replace hb := below_trans hb bw4
      clear bw4
      go_wp2
      go_ret
      exact ⟨rfl, hb⟩
    · have hk' : (chk l0 == 0) = false := by simp [hk]
      have hk2 : (chk l0 != 0) = true := by simp [hk]
      have HE : Hid (cutE l0 t = chk l0) := Lib.hid (by simp [cutE, hk])
      have HL : Hid (cutL l0 t = []) := Lib.hid (by simp [cutL, HE.out, hk])
      clear hk
      go_enter Try.func4, Try.ntmps4
      go_wp2_with fail
      refine (le_any _ a1 l0 l1 c0 c1 _ h0 h1).mono ?_
      rintro e w1 ⟨rfl, nw1, hww1⟩
      have bw1 := below_of_drewN hww1
      clear hww1
      replace h0 := h0.below bw1
      replace h1 := h1.below bw1
      replace hb := below_trans hb bw1
      clear bw1
      rw [HD.out]
      go_wp2_with fail
      refine (refCurves_any _ a1 l0 l1 c0 c1 _ h0 h1).mono ?_
      rintro e w' ⟨rfl, rfl⟩
      go_wp2_with fail
      refine (cut_any a0 l0 c0 t _ h0).mono ?_
      rintro e w3 ⟨Ax, cx, rfl, ox, bw3⟩
      replace h0 := h0.below bw3
      replace h1 := h1.below bw3
      replace hb := below_trans hb bw3
      have hx := Ints.of_own ox
      clear bw3 ox
      rw [HE.out, HL.out]
      go_wp2_with fail
      refine (refCurve_any a0 l0 c0 _ h0).mono ?_
      rintro e w' ⟨rfl, rfl⟩
      go_wp2
      go_ret
      exact ⟨rfl, hb⟩

end Go.Proofs.Ythigjcbdlijfbaa
