
/-
  The walk of the law FifoSays.
-/
import Derived.Test.YtmejapenidociaaFifoR
namespace Go.Proofs.Ytmejapenidociaa
set_option linter.all false
open Go.RowKit Go.Shelf


set_option maxRecDepth 100000 in
set_option maxHeartbeats 3200000 in
theorem walk_FifoSays (a0 : Option Addr) (c0 : Nat) (l0 : List Pk) (t : Int) (w : World) (h0 : Pks w a0 l0) (_k0 : l0.length ≤ c0) (_ht : (Lit.int .i64 t).wf = true) :
    Calls Try.prog 3 #[.slice a0 l0.length c0, .int .i64 t] w fun e w' => e = .returned (.bool true) ∧ Below w.heap.size w w' := by
  have hb : Below w.heap.size w w := Below.refl _ _
  clear _k0 _ht
  by_cases hE : pksE l0 = 0
  · have q := qu_of hE
    have HE := Lib.hid hE
    have hle := q.le
    obtain ⟨V, HV⟩ : ∃ V, Hid (cnV l0 t l0.length = V) := ⟨_, Lib.hid rfl⟩
    have HL : Hid ((dnL l0).length = l0.length) := Lib.hid (length_dnL l0)
    clear hE
    go_enter Try.func3, Try.ntmps3
    go_wp2_with fail
    refine (frun_yes a0 l0 (dnL l0) _ l0.length c0 _ HE (Lib.hid rfl) h0 rfl rfl).mono ?_
    rintro e w1 ⟨Ax, cx, rfl, hx, kx, bw1⟩
    replace h0 := h0.below bw1
    replace hb := below_trans hb bw1
    clear bw1
    go_wp2_with fail
    refine (fcount_yes a0 l0 _ c0 t V _ HE HV h0 rfl).mono ?_
    rintro e w2 ⟨rfl, bw2⟩
    replace h0 := h0.below bw2
    replace hx := hx.below bw2
    replace hb := below_trans hb bw2
    clear bw2
    go_wp2_with fail
    refine (refQueue_any a0 l0 c0 _ h0).mono ?_
    rintro e w3 ⟨rfl, bw3⟩
    replace h0 := h0.below bw3
    replace hx := hx.below bw3
    replace hb := below_trans hb bw3
    clear bw3
    rw [HE.out]
    go_wp2_with fail
    refine (refServed_any a0 l0 c0 _ h0 q).mono ?_
    rintro e w4 ⟨Az, cz, rfl, oz, bw4⟩
    replace h0 := h0.below bw4
    replace hx := hx.below bw4
    replace hb := below_trans hb bw4
    have hz := Ints.of_own oz
    clear bw4 oz
    rw [HL.out]
    go_wp2
    go_loopw [11, 50] (fun m i wr => ∃ k : Nat, k ≤ l0.length ∧ i = .int .i64 k ∧ m = .int .i64 (cnV l0 t k) ∧ Below w4.heap.size w4 wr) (fun _ i _ => l0.length - (intOf i).toNat)
    case atStart => exact ⟨0, Nat.zero_le _, rfl, rfl, Below.refl _ _⟩
    case round =>
      obtain ⟨k, hk, rfl, rfl, hbel⟩ := hrel
      obtain ⟨m, hm⟩ : ∃ m, m = cnV l0 t k := ⟨_, rfl⟩
      have m0 : 0 ≤ m ∧ m ≤ 60 := by rw [hm]; have := cn_bd l0 t k; omega
      obtain ⟨ma, mb⟩ := m0
      rw [← hm]
      by_cases hlt : k < l0.length
      · obtain ⟨bb, off, p, rfl, hbl, c0', c1, c2, HP⟩ := (h0.below hbel).get hlt
        obtain ⟨b2, o2, y, e2, hc2, HY⟩ := (hz.below hbel).at_ (k := k) (by rw [length_dnL]; exact hlt)
        subst e2
        have hy := gt_of_get HY.out
        rw [gt_dnL hlt] at hy
        have HN : Hid (cnV l0 t (k + 1) = m + if p.at_ ≤ t ∧ t < y then 1 else 0) := Lib.hid (by rw [cnV, ← hm, pk_of HP.out, hy])
        have i1 : (k : Int) < (l0.length : Int) := by omega
        have hl2 := cell_lt hc2
        clear hm hy
        by_cases q1 : p.at_ ≤ t
        · have e1 : decide (p.at_ ≤ t) = true := decide_eq_true q1
          by_cases q2 : t < y
          · have e2 : decide (t < y) = true := decide_eq_true q2
            go_wp2
            go_roundw
            case rel => exact ⟨k + 1, by omega, by go_num, by rw [HN.out, if_pos ⟨q1, q2⟩], hbel.alloc hbel.size _⟩
            case measure => simp [intOf]; omega
          · have e2 : decide (t < y) = false := decide_eq_false q2
            go_wp2
            go_roundw
            case rel => exact ⟨k + 1, by omega, by go_num, by rw [HN.out, if_neg (fun e => q2 e.2)]; congr 1; omega, hbel.alloc hbel.size _⟩
            case measure => simp [intOf]; omega
        · have e1 : decide (p.at_ ≤ t) = false := decide_eq_false q1
          go_wp2
          go_roundw
          case rel => exact ⟨k + 1, by omega, by go_num, by rw [HN.out, if_neg (fun e => q1 e.1)]; congr 1; omega, hbel.alloc hbel.size _⟩
          case measure => simp [intOf]; omega
      · obtain rfl : k = l0.length := by omega
        obtain rfl : m = V := by rw [hm, HV.out]
        replace hx := hx.below hbel
        replace hz := hz.below hbel
        replace hb := below_trans hb hbel
        have e0 : (m == m) = true := by simp
        clear hm hbel
        go_wp2_with fail
        refine (equal_at Ax Az (dnL l0) (dnL l0) _ _ _ _ _ hx hz HL.out.symm HL.out.symm).mono ?_
        rintro e w5 ⟨rfl, nw5, hww5⟩
        have bw5 := below_of_drewN hww5
        clear hww5
        replace hb := below_trans hb bw5
        clear bw5
        rw [eqB_true rfl]
        go_wp2
        go_ret
        exact ⟨rfl, hb⟩
  · have e1 : (pksE l0 != 0) = true := by simp [hE]
    have e2 : (pksE l0 == pksE l0) = true := by simp
    go_enter Try.func3, Try.ntmps3
    go_wp2_with fail
    refine (frun_no a0 l0 c0 _ hE h0).mono ?_
    rintro e w1 ⟨Ax, cx, rfl, b1⟩
    replace h0 := h0.below b1
    replace hb := below_trans hb b1
    clear b1
    go_wp2_with fail
    refine (fcount_no a0 l0 c0 t _ hE h0).mono ?_
    rintro e w2 ⟨rfl, bw2⟩
    replace h0 := h0.below bw2
    replace hb := below_trans hb bw2
    clear bw2
    go_wp2_with fail
    refine (refQueue_any a0 l0 c0 _ h0).mono ?_
    rintro e w3 ⟨rfl, bw3⟩
    replace h0 := h0.below bw3
    replace hb := below_trans hb bw3
    clear bw3
    go_wp2
    go_ret
    exact ⟨rfl, hb⟩

end Go.Proofs.Ytmejapenidociaa
