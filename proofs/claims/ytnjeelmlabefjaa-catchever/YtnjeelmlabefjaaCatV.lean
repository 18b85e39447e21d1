
/-
  The walk of the law CatchEver over the contracts of package catch.
-/
import Derived.Test.YtnjeelmlabefjaaCatC
namespace Go.Proofs.Ytnjeelmlabefjaa
set_option linter.all false
open Go.RowKit Go.Shelf



set_option maxRecDepth 100000 in
set_option maxHeartbeats 3200000 in
theorem v_CatchEver (K : CatC) (a0 : Option Addr) (c0 : Nat) (l0 : List Int) (n1 n2 : Int) (w : World)
    (h0 : Ints w a0 l0) (_k0 : l0.length ≤ c0) (_1 : (Lit.int .i64 n1).wf = true) (_2 : (Lit.int .i64 n2).wf = true) :
    Calls Try.prog 8 #[.slice a0 l0.length c0, .int .i64 n1, .int .i64 n2] w fun e w' => e = .returned (.bool true) ∧ Below w.heap.size w w' := by
  have hb : Below w.heap.size w w := Below.refl _ _
  clear _k0 _1 _2
  have L1 : Hid (DnIs [1, 1] 2 1 1 0) := Lib.hid (dn_lit 1 (by decide) (by decide) (by decide) (by decide))
  by_cases hE : lgE l0 n1 n2 = 0
  · have ok := lg_ok hE
    have r0 := ok.r0
    have r1 := ok.r1
    have HE := Lib.hid hE
    have HOK := Lib.hid ok
    obtain ⟨x, E, hx⟩ := ex_dn l0 n1 n2
    have HV := Lib.hid hx
    have hle := ok.tr.le
    rcases hx with ⟨_, d, hx, rfl, rfl⟩ | ⟨_, hx, rfl, rfl⟩ | ⟨q, _⟩
    · have hd := hx.le
      have HN := Lib.hid hx.hit
      clear hE ok hx
      go_enter Try.func8, Try.ntmps8
      go_wp2_with fail
      refine (K.done_at _ [1, 1] _ _ 2 1 1 0 _ (by exact Ints.lit _ [1, 1] _ _ rfl (by decide)) L1 rfl).mono ?_
      rintro e w1 ⟨rfl, bw1⟩
      replace bw1 := below_of1 bw1
      replace h0 := h0.below bw1
      replace hb := below_trans hb bw1
      clear bw1
      go_wp2_with fail
      refine (K.done_at a0 l0 _ c0 n1 n2 d 0 _ h0 HV rfl).mono ?_
      rintro e w2 ⟨rfl, bw2⟩
      replace h0 := h0.below bw2
      replace hb := below_trans hb bw2
      clear bw2
      go_wp2_with fail
      refine (K.lag_yes a0 l0 (lgL l0 n1 n2) _ (l0.length + 1) c0 n1 n2 _ h0 HE (Lib.hid rfl) rfl rfl).mono ?_
      rintro e w3 ⟨Ax, cx, rfl, hx, kx, bw3⟩
      replace h0 := h0.below bw3
      replace hb := below_trans hb bw3
      clear bw3
      have i0 : (0 : Int) ≤ (d : Int) := by omega
      have i1 : ¬ (d : Int) < 0 := by omega
      have i2 : ¬ (l0.length : Int) + 1 ≤ (d : Int) := by omega
      have i3 : (d : Int) < (l0.length : Int) + 1 := by omega
      go_wp2
      go_loopw [13] (fun i wr => ∃ t n : Nat, d + 1 ≤ t ∧ t ≤ l0.length + 1 ∧ i = .int .i64 t ∧ (∀ s, d ≤ s → s + 1 < t → gt l0 s ≤ n1) ∧ wr = w3.drewN n) (fun i _ => l0.length + 1 - (intOf i).toNat)
      case atStart => exact ⟨d + 1, 0, Nat.le_refl _, by omega, by go_num, fun s h1 h2 => by omega, rfl⟩
      case round =>
        obtain ⟨t, n, ht, ht', rfl, hh, rfl⟩ := hrel
        by_cases hlt : t < l0.length + 1
        · obtain ⟨b1, o1, y, e1, hc1, HY⟩ := h0.at_ (k := t - 1) (by omega)
          obtain ⟨b2, o2, x, e2, hc2, HX⟩ := hx.at_ (k := t) (by rw [length_lgL]; exact hlt)
          subst e1 e2
          have hy := gt_of_get HY.out
          have hx' := gt_of_get HX.out
          rw [gt_lgL (by omega)] at hx'
          have i4 : (t : Int) < (l0.length : Int) + 1 := by omega
          have s1 : IntKind.i64.wrap ((t : Int) - 1) = (t : Int) - 1 := IntWalk.i64_in _ ⟨by omega, by omega⟩
          have s2 : ((t : Int) - 1).toNat = t - 1 := by omega
          have i5 : (0 : Int) ≤ (t : Int) - 1 := by omega
          have i6 : (t : Int) - 1 < (l0.length : Int) := by omega
          by_cases hy1 : n1 < y
          · clear hx' hy hh
            go_wp2
            go_ret
            exact ⟨rfl, below_trans hb (below_of_drewN rfl)⟩
          · have hh' : ∀ s, d ≤ s → s + 1 < t + 1 → gt l0 s ≤ n1 := fun s h1 h2 => by
              by_cases c : s + 1 < t
              · exact hh s h1 c
              · obtain rfl : s = t - 1 := by omega
                omega
            have hz := lg_stay (a := l0) (r := n1) (g := n2) HN.out (t - d) (fun s h1 h2 => hh' s h1 (by omega))
            rw [show d + (t - d) = t by omega, hx'] at hz
            subst hz
            have HH := Lib.hid hh'
            clear hx' hy hh hh'
            go_wp2
            go_roundw
            case rel => exact ⟨t + 1, n, by omega, by omega, by go_num, HH.out, rfl⟩
            case measure => simp [intOf]; omega
        · obtain rfl : t = l0.length + 1 := by omega
          obtain ⟨b2, o2, x, rfl, hc2, HX⟩ := hx.at_ (k := d) (by rw [length_lgL]; omega)
          have hx' := gt_of_get HX.out
          rw [gt_lgL hd, HN.out] at hx'
          subst hx'
          have i4 : ¬ ((l0.length + 1 : Nat) : Int) < (l0.length : Int) + 1 := by omega
          clear hh
          go_wp2
          go_ret
          exact ⟨rfl, below_trans hb (below_of_drewN rfl)⟩
    · clear hE ok hx
      go_enter Try.func8, Try.ntmps8
      go_wp2_with fail
      refine (K.done_at _ [1, 1] _ _ 2 1 1 0 _ (by exact Ints.lit _ [1, 1] _ _ rfl (by decide)) L1 rfl).mono ?_
      rintro e w1 ⟨rfl, bw1⟩
      replace bw1 := below_of1 bw1
      replace h0 := h0.below bw1
      replace hb := below_trans hb bw1
      clear bw1
      go_wp2_with fail
      refine (K.done_at a0 l0 _ c0 n1 n2 0 5 _ h0 HV rfl).mono ?_
      rintro e w2 ⟨rfl, bw2⟩
      replace h0 := h0.below bw2
      replace hb := below_trans hb bw2
      clear bw2
      go_wp2_with fail
      refine (K.lag_yes a0 l0 (lgL l0 n1 n2) _ (l0.length + 1) c0 n1 n2 _ h0 HE (Lib.hid rfl) rfl rfl).mono ?_
      rintro e w3 ⟨Ax, cx, rfl, hx, kx, bw3⟩
      replace h0 := h0.below bw3
      replace hb := below_trans hb bw3
      clear bw3
      go_wp2
      go_ret
      exact ⟨rfl, hb⟩
    · exact absurd hE q
  · obtain ⟨x, E, hx⟩ := ex_dn l0 n1 n2
    have HV := Lib.hid hx
    have HE := Lib.hid hE
    rcases hx with ⟨q, _⟩ | ⟨q, _⟩ | ⟨_, rfl, rfl⟩
    · exact absurd q hE
    · exact absurd q hE
    have e1 : (lgE l0 n1 n2 != 0) = true := by simp [hE]
    clear hE
    go_enter Try.func8, Try.ntmps8
    go_wp2_with fail
    refine (K.done_at _ [1, 1] _ _ 2 1 1 0 _ (by exact Ints.lit _ [1, 1] _ _ rfl (by decide)) L1 rfl).mono ?_
    rintro e w1 ⟨rfl, bw1⟩
    replace bw1 := below_of1 bw1
    replace h0 := h0.below bw1
    replace hb := below_trans hb bw1
    clear bw1
    go_wp2_with fail
    refine (K.done_at a0 l0 _ c0 n1 n2 0 (lgE l0 n1 n2) _ h0 HV rfl).mono ?_
    rintro e w2 ⟨rfl, bw2⟩
    replace h0 := h0.below bw2
    replace hb := below_trans hb bw2
    clear bw2
    go_wp2_with fail
    refine (K.lag_no a0 l0 _ c0 n1 n2 _ h0 HE rfl).mono ?_
    rintro e w3 ⟨⟨B, d, rfl⟩, b3⟩
    replace hb := below_trans hb b3
    go_wp2
    go_ret
    exact ⟨rfl, hb⟩

end Go.Proofs.Ytnjeelmlabefjaa
