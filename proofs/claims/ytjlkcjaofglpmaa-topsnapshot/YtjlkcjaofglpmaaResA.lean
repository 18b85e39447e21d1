
/-
  The walk of the law ResumeBy over the contracts of package resume.
-/
import Derived.Test.YtjlkcjaofglpmaaResC
import Derived.Test.YtjlkcjaofglpmaaShareP
namespace Go.Proofs.Ytjlkcjaofglpmaa
set_option linter.all false
open Go.RowKit Go.Shelf


theorem cr_hi (c : Nat → Bool) : ∀ t : Nat, crV c t ≤ t
  | 0 => Int.le_refl _
  | t + 1 => by have := cr_hi c t; simp only [crV]; split <;> omega
/-- By what Bound says all is there. -/
theorem bo_by {s u r : Int} {c : Nat → Bool} (ok : RsOk s u r) (t : Nat) (ht : t ≤ 200) : (boE s u r (crV c t) = 0 ∨ boE s u r (crV c t) = 5) ∧ (boE s u r (crV c t) = 0 → boV s u r (crV c t) ≤ t → reV s u r c t = s) := by
  obtain ⟨s0, s1, u0, u1, r0, r1⟩ := ok
  have k0 := cr_lo c t
  have k1 := cr_hi c t
  have nb : ¬ (BadR s u r ∨ crV c t < 0 ∨ 200 < crV c t) := by
    rintro (h | h | h)
    · exact rs_iff.2 ⟨s0, s1, u0, u1, r0, r1⟩ h
    · omega
    · omega
  have hb := re_bd (c := c) s0 (show 0 < u by omega) r0 t
  have hn := nd_bd s0 s1 u0 u1 k0 (show crV c t ≤ 200 by omega)
  by_cases h1 : ndV s u (crV c t) = 0
  · have hE : boE s u r (crV c t) = 0 := by rw [boE, if_neg nb, if_pos h1]
    exact ⟨.inl hE, fun _ _ => by have := hn.2.2.1 h1; omega⟩
  · by_cases h2 : r = 0
    · have hE : boE s u r (crV c t) = 5 := by rw [boE, if_neg nb, if_neg h1, if_pos h2]
      exact ⟨.inr hE, fun h => by omega⟩
    · have hE : boE s u r (crV c t) = 0 := by rw [boE, if_neg nb, if_neg h1, if_neg h2]
      refine ⟨.inl hE, fun _ hV => ?_⟩
      rw [boV, if_pos ⟨hE, h1⟩] at hV
      have := (slot_least (s := ndV s u (crV c t)) (r := r) (d := t) (by omega) (by omega)).2 hV
      refine re_by s0 (by omega) r0 ?_
      unfold ndV at this h1
      by_cases z : s = 0
      · rw [if_pos z] at h1; exact absurd rfl h1
      · rw [if_neg z, Int.mul_comm (t : Int)] at this; exact this

set_option maxRecDepth 100000 in
set_option maxHeartbeats 3200000 in
theorem v_ResumeBy (K : ResC) (n1 n2 n3 : Int) (a3 : Option Addr) (c3 : Nat) (l3 : List Bool) (w : World)
    (_1 : (Lit.int .i64 n1).wf = true) (_2 : (Lit.int .i64 n2).wf = true) (_3 : (Lit.int .i64 n3).wf = true) (h3 : Bls w a3 l3) (_k3 : l3.length ≤ c3) :
    Calls Try.prog 7 #[.int .i64 n1, .int .i64 n2, .int .i64 n3, .slice a3 l3.length c3] w fun e w' => e = .returned (.bool true) ∧ Below w.heap.size w w' := by
  have hb : Below w.heap.size w w := Below.refl _ _
  clear _1 _2 _3 _k3
  by_cases hE : ruE n1 n2 n3 l3.length = 0
  · obtain ⟨ok, hle⟩ := ru_ok hE
    have HE := Lib.hid hE
    have s0 := ok.s0
    have s1 := ok.s1
    have HOK := Lib.hid ok
    clear hE ok
    go_enter Try.func7, Try.ntmps7
    go_wp2_with fail
    refine (K.run_yes _ [false, true, false, false] [2, 3, 5, 7] _ 4 _ 7 3 2 _ (by exact Bls.lit _ [false, true, false, false] _ _ rfl (by decide)) (Lib.hid (by decide)) (Lib.hid (by decide)) rfl rfl).mono ?_
    rintro e w1 ⟨Ax, cx, rfl, hx, kx, bw1⟩
    replace bw1 := below_of1 bw1
    replace h3 := h3.below bw1
    replace hb := below_trans hb bw1
    clear bw1
    go_wp2_with fail
    refine (equal_at Ax _ [2, 3, 5, 7] [2, 3, 5, 7] _ _ _ _ _ (by exact Ints.alloc hx _) (by exact Ints.lit _ [2, 3, 5, 7] _ _ rfl (by decide)) rfl rfl).mono ?_
    rintro e w2 ⟨rfl, nw2, hww2⟩
    have bw2 := below_of_drewN hww2
    clear hww2
    replace bw2 := below_of1 bw2
    replace h3 := h3.below bw2
    replace hb := below_trans hb bw2
    clear bw2
    rw [eqB_true rfl]
    clear hx kx
    go_wp2_with fail
    refine (K.bound_at 7 3 2 1 5 0 _ (Lib.hid (by decide)) (Lib.hid (by decide))).mono ?_
    rintro e w3 ⟨rfl, bw3⟩
    replace h3 := h3.below bw3
    replace hb := below_trans hb bw3
    clear bw3
    go_wp2_with fail
    refine (K.run_yes a3 l3 (ruL n1 n2 n3 l3) _ l3.length c3 n1 n2 n3 _ h3 HE (Lib.hid rfl) rfl rfl).mono ?_
    rintro e w4 ⟨Ax, cx, rfl, hx, kx, bw4⟩
    replace h3 := h3.below bw4
    replace hb := below_trans hb bw4
    clear bw4
    go_wp2
    go_loopw [15, 69] (fun k i wr => ∃ t : Nat, t ≤ l3.length ∧ k = .int .i64 (crV (hv l3) t) ∧ i = .int .i64 t ∧ Below w4.heap.size w4 wr) (fun _ i _ => l3.length - (intOf i).toNat)
    case atStart => exact ⟨0, Nat.zero_le _, rfl, rfl, Below.refl _ _⟩
    case round =>
      obtain ⟨t, ht, rfl, rfl, hbel⟩ := hrel
      by_cases hlt : t < l3.length
      · obtain ⟨b1, o1, x, e1, hc1, HX⟩ := (hx.below hbel).at_ (k := t) (by rw [length_ruL]; exact hlt)
        obtain ⟨b2, o2, b, e2, hc2, HB⟩ := (h3.below hbel).get hlt
        subst e1 e2
        have hx' := gt_of_get HX.out
        rw [gt_ruL hlt] at hx'
        have hv' : hv l3 t = b := by rw [hv, List.getD, HB.out]; rfl
        obtain ⟨j, hj⟩ : ∃ j, j = crV (hv l3) t := ⟨_, rfl⟩
        have j0 : 0 ≤ j := by rw [hj]; exact cr_lo _ _
        have j1 : j ≤ t := by rw [hj]; exact cr_hi _ _
        obtain ⟨k, hk⟩ : ∃ k, k = crV (hv l3) (t + 1) := ⟨_, rfl⟩
        have hk' : k = j + if b = true then 1 else 0 := by rw [hk, crV, ← hj, hv']
        obtain ⟨V, hV⟩ : ∃ V, boV n1 n2 n3 k = V := ⟨_, rfl⟩
        obtain ⟨E, hE⟩ : ∃ E, boE n1 n2 n3 k = E := ⟨_, rfl⟩
        have by1 := bo_by (c := hv l3) HOK.out (t + 1) (by omega)
        rw [← hk, hV, hE, hx'] at by1
        obtain ⟨hE5, hy⟩ := by1
        have HY : Hid (E = 0 → V ≤ (t : Int) + 1 → x = n1) := Lib.hid (fun a b => hy a (by rw [show ((t + 1 : Nat) : Int) = (t : Int) + 1 by omega]; exact b))
        have HV := Lib.hid hV
        have HE' := Lib.hid hE
        have HK := Lib.hid hk.symm
        have xb := re_bd (c := hv l3) s0 (show 0 < n2 by have := HOK.out.u0; omega) HOK.out.r0 (t + 1)
        rw [hx'] at xb
        obtain ⟨x0, x1⟩ := xb
        have x2 : ¬ n1 < x := by omega
        have i1 : (t : Int) < (l3.length : Int) := by omega
        have s2 : IntKind.i64.wrap ((t : Int) + 1) = (t : Int) + 1 := IntWalk.i64_in _ ⟨by omega, by omega⟩
        have s3 : IntKind.i64.wrap (j + 1) = j + 1 := IntWalk.i64_in _ ⟨by omega, by omega⟩
        rw [← hj]
        clear hx' hv' hj hk hV hE hy
        cases b with
        | true =>
          rw [if_pos rfl] at hk'
          have HJ := Lib.hid hk'
          clear hk'
          go_wp2_with fail
          rw [← HJ.out]
          refine (K.bound_at n1 n2 n3 k V E _ HV HE').mono ?_
          rintro e wb ⟨rfl, bb⟩
          replace hbel := below_trans hbel bb
          clear bb
          rcases hE5 with rfl | rfl
          · by_cases q : V ≤ (t : Int) + 1
            · obtain rfl := HY.out rfl q
              go_wp2
              go_roundw
              case rel => exact ⟨t + 1, by omega, by rw [HK.out], by go_num, hbel⟩
              case measure => simp [intOf]; omega
            · go_wp2
              go_roundw
              case rel => exact ⟨t + 1, by omega, by rw [HK.out], by go_num, hbel⟩
              case measure => simp [intOf]; omega
          · go_wp2
            go_roundw
            case rel => exact ⟨t + 1, by omega, by rw [HK.out], by go_num, hbel⟩
            case measure => simp [intOf]; omega
        | false =>
          rw [if_neg (by decide), Int.add_zero] at hk'
          subst hk'
          go_wp2_with fail
          refine (K.bound_at n1 n2 n3 k V E _ HV HE').mono ?_
          rintro e wb ⟨rfl, bb⟩
          replace hbel := below_trans hbel bb
          clear bb
          rcases hE5 with rfl | rfl
          · by_cases q : V ≤ (t : Int) + 1
            · obtain rfl := HY.out rfl q
              go_wp2
              go_roundw
              case rel => exact ⟨t + 1, by omega, by rw [HK.out], by go_num, hbel⟩
              case measure => simp [intOf]; omega
            · go_wp2
              go_roundw
              case rel => exact ⟨t + 1, by omega, by rw [HK.out], by go_num, hbel⟩
              case measure => simp [intOf]; omega
          · go_wp2
            go_roundw
            case rel => exact ⟨t + 1, by omega, by rw [HK.out], by go_num, hbel⟩
            case measure => simp [intOf]; omega
      · obtain rfl : t = l3.length := by omega
        go_wp2
        go_ret
        exact ⟨rfl, below_trans hb hbel⟩
  · have e1 : (ruE n1 n2 n3 l3.length != 0) = true := by simp [hE]
    have HE := Lib.hid hE
    clear hE
    go_enter Try.func7, Try.ntmps7
    go_wp2_with fail
    refine (K.run_yes _ [false, true, false, false] [2, 3, 5, 7] _ 4 _ 7 3 2 _ (by exact Bls.lit _ [false, true, false, false] _ _ rfl (by decide)) (Lib.hid (by decide)) (Lib.hid (by decide)) rfl rfl).mono ?_
    rintro e w1 ⟨Ax, cx, rfl, hx, kx, bw1⟩
    replace bw1 := below_of1 bw1
    replace h3 := h3.below bw1
    replace hb := below_trans hb bw1
    clear bw1
    go_wp2_with fail
    refine (equal_at Ax _ [2, 3, 5, 7] [2, 3, 5, 7] _ _ _ _ _ (by exact Ints.alloc hx _) (by exact Ints.lit _ [2, 3, 5, 7] _ _ rfl (by decide)) rfl rfl).mono ?_
    rintro e w2 ⟨rfl, nw2, hww2⟩
    have bw2 := below_of_drewN hww2
    clear hww2
    replace bw2 := below_of1 bw2
    replace h3 := h3.below bw2
    replace hb := below_trans hb bw2
    clear bw2
    rw [eqB_true rfl]
    clear hx kx
    go_wp2_with fail
    refine (K.bound_at 7 3 2 1 5 0 _ (Lib.hid (by decide)) (Lib.hid (by decide))).mono ?_
    rintro e w3 ⟨rfl, bw3⟩
    replace h3 := h3.below bw3
    replace hb := below_trans hb bw3
    clear bw3
    go_wp2_with fail
    refine (K.run_no a3 l3 _ c3 n1 n2 n3 _ h3 HE rfl).mono ?_
    rintro e w4 ⟨⟨B, d, rfl⟩, b4⟩
    replace hb := below_trans hb b4
    clear b4
    go_wp2
    go_ret
    exact ⟨rfl, hb⟩

end Go.Proofs.Ytjlkcjaofglpmaa
