
/-
  The walk of the law LineSays.
-/
import Derived.Test.YtifmefachdfmjaaLineR
namespace Go.Proofs.Ytifmefachdfmjaa
set_option linter.all false
open Go.RowKit Go.Shelf


set_option maxRecDepth 100000 in
set_option maxHeartbeats 3200000 in
theorem walk_LineSays (a0 : Option Addr) (c0 : Nat) (l0 : List Int) (n : Int) (w : World)
    (h0 : Ints w a0 l0) (k0 : l0.length ≤ c0) (_hn : (Lit.int .i64 n).wf = true) :
    Calls Try.prog 3 #[.slice a0 l0.length c0, .int .i64 n] w fun e w' => e = .returned (.bool true) ∧ Below w.heap.size w w' := by
  have hb : Below w.heap.size w w := Below.refl _ _
  clear _hn
  by_cases hE : linE l0 n = 0
  · obtain ⟨v, r0, r1⟩ := lin_ok hE
    have HE := Lib.hid hE
    have hle := v.le
    obtain ⟨N, HN⟩ : ∃ N, Hid (lonZ l0 n l0.length = N) := ⟨_, Lib.hid rfl⟩
    have HLW : Hid ((waL l0 n).length = l0.length) := Lib.hid (length_waL l0 n)
    have HLG : Hid ((goL l0 n).length = l0.length) := Lib.hid (length_goL l0 n)
    clear hE
    go_enter Try.func3, Try.ntmps3
    go_wp2_with fail
    refine (lrun_yes a0 l0 (goL l0 n) (waL l0 n) _ l0.length c0 n _ HE (Lib.hid rfl) (Lib.hid rfl) h0 rfl rfl).mono ?_
    rintro e w1 ⟨Ax, cx, Ay, cy, rfl, hx, hy, kx, ky, bw1⟩
    replace h0 := h0.below bw1
    replace hb := below_trans hb bw1
    clear bw1
    go_wp2_with fail
    refine (busy_yes a0 l0 _ c0 n N _ HE HN h0 rfl).mono ?_
    rintro e w2 ⟨rfl, bw2⟩
    replace h0 := h0.below bw2
    replace hx := hx.below bw2
    replace hy := hy.below bw2
    replace hb := below_trans hb bw2
    clear bw2
    go_wp2_with fail
    refine (rated_any a0 l0 c0 n _ h0).mono ?_
    rintro e w' ⟨rfl, rfl⟩
    rw [HE.out]
    go_wp2_with fail
    refine (refWaits_any a0 l0 c0 n _ h0 v r0 r1).mono ?_
    rintro e w3 ⟨Az, cz, rfl, oz, bw3⟩
    replace h0 := h0.below bw3
    replace hx := hx.below bw3
    replace hy := hy.below bw3
    replace hb := below_trans hb bw3
    have hz := Ints.of_own oz
    clear bw3 oz
    rw [HLW.out]
    go_wp2
    go_loop [12, 60] (fun m i => ∃ k q : Nat, k ≤ l0.length ∧ q ≤ 60 ∧ i = .int .i64 k ∧ m = .int .i64 q ∧ Hid (OutZ l0 n k q)) (fun _ i => l0.length - (intOf i).toNat)
    case atStart => exact ⟨0, 0, Nat.zero_le _, by omega, rfl, rfl, Lib.hid (OutZ.init _ _)⟩
    case round =>
      obtain ⟨k, q, hk, hq, rfl, rfl, HO⟩ := hrel
      by_cases hlt : k < l0.length
      · have i1 : (k : Int) < (l0.length : Int) := by omega
        go_wp2
        go_loop [14] (fun j => ∃ d : Nat, k ≤ d ∧ d ≤ l0.length ∧ j = .int .i64 d ∧ Hid (Bz l0 n k (d - k))) (fun j => l0.length - (intOf j).toNat)
        case atStart => exact ⟨k, Nat.le_refl _, hk, rfl, Lib.hid (by rw [Nat.sub_self]; exact bz_one hk)⟩
        case round =>
          obtain ⟨d, hd0, hd1, rfl, HB⟩ := hrel
          by_cases hdt : d < l0.length
          · have i2 : (d : Int) < (l0.length : Int) := by omega
            obtain ⟨b1, o1, x, rfl, hc1, HX⟩ := hz.at_ (k := d) (by rw [HLW.out]; exact hdt)
            have hx' := gt_of_get HX.out
            rw [gt_waL hdt] at hx'
            have x0 : 0 ≤ x := by rw [← hx']; exact wa_lo _ _ _
            by_cases hp : 0 < x
            · have HB' : Hid (Bz l0 n k (d + 1 - k)) := Lib.hid (by
                rw [show d + 1 - k = d - k + 1 by omega]
                exact bz_next HB.out (by omega) (by rw [show k + (d - k) + 1 = d + 1 by omega, hx']; exact hp))
              clear hx'
              go_wp2
              go_round
              case rel => exact ⟨d + 1, by omega, by omega, by go_num, HB'⟩
              case measure => simp [intOf]; omega
            · have HO' : Hid (OutZ l0 n (k + 1) (max q (d - k))) := Lib.hid (HO.out.next HB.out (.inr (by rw [show k + (d - k) + 1 = d + 1 by omega, hx']; omega)))
              have hp' : decide (0 < x) = false := decide_eq_false hp
              clear hx'
              rcases Nat.lt_trichotomy q (d - k) with c | c | c
              all_goals
                have c' : ((d : Int) - (k : Int)) = ((d - k : Nat) : Int) := by omega
                go_wp2
                all_goals
                  go_round
                  case rel => exact ⟨k + 1, max q (d - k), by omega, by omega, by go_num, by congr 1; omega, HO'⟩
                  case measure => simp [intOf]; omega
          · obtain rfl : d = l0.length := by omega
            have HO' : Hid (OutZ l0 n (k + 1) (max q (l0.length - k))) := Lib.hid (HO.out.next HB.out (.inl (by omega)))
            go_wp2
            all_goals
              go_round
              case rel => exact ⟨k + 1, max q (l0.length - k), by omega, by omega, by go_num, by congr 1; omega, HO'⟩
              case measure => simp [intOf]; omega
      · obtain rfl : k = l0.length := by omega
        obtain rfl : q = N := by rw [← HN.out]; exact HO.out.all
        have e0 : ((q : Int) == (q : Int)) = true := by simp
        go_wp2_with fail
        refine (refGoes_any a0 l0 c0 n _ h0 v r0 r1).mono ?_
        rintro e w4 ⟨Ag, cg, rfl, og, bw4⟩
        replace hx := hx.below bw4
        replace hy := hy.below bw4
        replace hz := hz.below bw4
        replace hb := below_trans hb bw4
        have hg := Ints.of_own og
        clear bw4 og
        rw [HLG.out]
        go_wp2_with fail
        refine (equal_at Ax Ag (goL l0 n) (goL l0 n) _ _ _ _ _ hx hg HLG.out.symm HLG.out.symm).mono ?_
        rintro e w5 ⟨rfl, nw5, hww5⟩
        have bw5 := below_of_drewN hww5
        clear hww5
        replace hy := hy.below bw5
        replace hz := hz.below bw5
        replace hb := below_trans hb bw5
        clear bw5
        rw [eqB_true rfl]
        go_wp2_with fail
        refine (equal_at Ay Az (waL l0 n) (waL l0 n) _ _ _ _ _ hy hz HLW.out.symm HLW.out.symm).mono ?_
        rintro e w6 ⟨rfl, nw6, hww6⟩
        have bw6 := below_of_drewN hww6
        clear hww6
        replace hb := below_trans hb bw6
        clear bw6
        rw [eqB_true rfl]
        go_wp2
        go_ret
        exact ⟨rfl, hb⟩
  · have e1 : (linE l0 n != 0) = true := by simp [hE]
    have e2 : (linE l0 n == linE l0 n) = true := by simp
    go_enter Try.func3, Try.ntmps3
    go_wp2_with fail
    refine (lrun_no a0 l0 c0 n _ hE h0).mono ?_
    rintro e w1 ⟨Ax, cx, Ay, cy, rfl, bx⟩
    replace h0 := h0.below bx
    replace hb := below_trans hb bx
    clear bx
    go_wp2_with fail
    refine (busy_no a0 l0 c0 n _ hE h0).mono ?_
    rintro e w2 ⟨rfl, bw2⟩
    replace h0 := h0.below bw2
    replace hb := below_trans hb bw2
    clear bw2
    go_wp2_with fail
    refine (rated_any a0 l0 c0 n _ h0).mono ?_
    rintro e w' ⟨rfl, rfl⟩
    go_wp2
    go_ret
    exact ⟨rfl, hb⟩

end Go.Proofs.Ytifmefachdfmjaa
