
/-
  The walks of the laws PlanLeast and PlanRoom over the contracts of packages catch and plan.
-/
import Derived.Test.YtnjeelmlabefjaaCatC
namespace Go.Proofs.Ytnjeelmlabefjaa
set_option linter.all false
open Go.RowKit Go.Shelf



/-- At the rate that is reckoned one is there in time. -/
theorem cb_at {l : List Int} {r g v E : Int} (k : CbOk l r g) {d : Nat} (hd : d < l.length) (h : RateOk l g d r) (hv : CbIs l r g v E) : E = 0 ∧ 0 ≤ v ∧ v ≤ d := by
  obtain ⟨t, ht, hc⟩ := h
  rcases hv with ⟨_, n, hn, rfl, rfl⟩ | ⟨_, hn, _⟩ | ⟨q, _⟩
  · have := hn.least hc
    exact ⟨rfl, by omega, by omega⟩
  · exact absurd hc (hn t (by omega))
  · exact absurd (cb_of k) q
/-- Where it will not do, one is not. -/
theorem cb_not {l : List Int} {r g v E : Int} (k : CbOk l r g) {d : Nat} (h : ¬ RateOk l g d r) (hv : CbIs l r g v E) : E = 5 ∧ v = 0 ∨ E = 0 ∧ (d : Int) < v := by
  rcases hv with ⟨_, n, hn, rfl, rfl⟩ | ⟨_, hn, rfl, rfl⟩ | ⟨q, _⟩
  · refine .inr ⟨rfl, ?_⟩
    by_cases c : n ≤ d
    · exact absurd ⟨n, c, hn.hit⟩ h
    · omega
  · exact .inl ⟨rfl, rfl⟩
  · exact absurd (cb_of k) q

set_option maxRecDepth 100000 in
set_option maxHeartbeats 3200000 in
theorem v_PlanLeast (K : CatC) (P : PlnC) (a0 : Option Addr) (c0 : Nat) (l0 : List Int) (n1 n2 : Int) (w : World)
    (h0 : Ints w a0 l0) (_k0 : l0.length ≤ c0) (_1 : (Lit.int .i64 n1).wf = true) (_2 : (Lit.int .i64 n2).wf = true) :
    Calls Try.prog 9 #[.slice a0 l0.length c0, .int .i64 n1, .int .i64 n2] w fun e w' => e = .returned (.bool true) ∧ Below w.heap.size w w' := by
  have hb : Below w.heap.size w w := Below.refl _ _
  clear _k0 _1 _2
  have L1 : Hid (RtIs [0, 3, 4, 5] 4 3 3 0) := Lib.hid (rt_lit 3 3 (by decide) (by decide) (by decide) (by decide))
  obtain ⟨c, E, hv⟩ := ex_rt l0 n1 n2
  have HV := Lib.hid hv
  rcases hv with ⟨hE, hv, rfl⟩ | ⟨_, _, rfl, rfl⟩ | ⟨q, rfl, e1⟩
  · have ok := rt_ok hE
    have c0' := hv.lo
    have c1' := hv.hi
    have d0 := ok.d0
    have d1 := ok.d1
    obtain ⟨v1, E1, hb1⟩ := ex_cb l0 c n1
    obtain ⟨rfl, i0, i1⟩ := cb_at ⟨ok.cv, hv.lo, hv.hi, ok.g0, ok.g1⟩ (d := n2.toNat) (by omega) hv.hit hb1
    have i2 : ¬ n2 < v1 := by omega
    have HB := Lib.hid hb1
    by_cases hc : c = 0
    · subst hc
      clear hv hE hb1 i0 i1 ok
      go_enter Try.func9, Try.ntmps9
      go_wp2_with fail
      refine (P.rate_at _ [0, 3, 4, 5] _ _ 4 3 3 0 _ (by exact Ints.lit _ [0, 3, 4, 5] _ _ rfl (by decide)) L1 rfl).mono ?_
      rintro e w1 ⟨rfl, bw1⟩
      replace bw1 := below_of1 bw1
      replace h0 := h0.below bw1
      replace hb := below_trans hb bw1
      clear bw1
      go_wp2_with fail
      refine (P.rate_at a0 l0 _ c0 n1 n2 0 0 _ h0 HV rfl).mono ?_
      rintro e w2 ⟨rfl, bw2⟩
      replace h0 := h0.below bw2
      replace hb := below_trans hb bw2
      clear bw2
      go_wp2_with fail
      refine (K.bound_at a0 l0 _ c0 0 n1 v1 0 _ h0 HB rfl).mono ?_
      rintro e w3 ⟨rfl, bw3⟩
      replace h0 := h0.below bw3
      replace hb := below_trans hb bw3
      clear bw3
      go_wp2
      go_ret
      exact ⟨rfl, hb⟩
    · have e0 : (c == 0) = false := by rw [beq_eq_false_iff_ne]; exact hc
      have s1 : IntKind.i64.wrap (c - 1) = c - 1 := IntWalk.i64_in _ ⟨by omega, by omega⟩
      obtain ⟨v2, E2, hb2⟩ := ex_cb l0 (c - 1) n1
      have HB2 := Lib.hid hb2
      have kk := cb_not (d := n2.toNat) ⟨ok.cv, by omega, by omega, ok.g0, ok.g1⟩ (hv.ahead (c - 1) (by omega) (by omega)) hb2
      rcases kk with ⟨rfl, rfl⟩ | ⟨rfl, kk⟩
      · clear hv hE hb1 hb2 i0 i1 ok hc
        go_enter Try.func9, Try.ntmps9
        go_wp2_with fail
        refine (P.rate_at _ [0, 3, 4, 5] _ _ 4 3 3 0 _ (by exact Ints.lit _ [0, 3, 4, 5] _ _ rfl (by decide)) L1 rfl).mono ?_
        rintro e w1 ⟨rfl, bw1⟩
        replace bw1 := below_of1 bw1
        replace h0 := h0.below bw1
        replace hb := below_trans hb bw1
        clear bw1
        go_wp2_with fail
        refine (P.rate_at a0 l0 _ c0 n1 n2 c 0 _ h0 HV rfl).mono ?_
        rintro e w2 ⟨rfl, bw2⟩
        replace h0 := h0.below bw2
        replace hb := below_trans hb bw2
        clear bw2
        go_wp2_with fail
        refine (K.bound_at a0 l0 _ c0 c n1 v1 0 _ h0 HB rfl).mono ?_
        rintro e w3 ⟨rfl, bw3⟩
        replace h0 := h0.below bw3
        replace hb := below_trans hb bw3
        clear bw3
        go_wp2_with fail
        refine (K.bound_at a0 l0 _ c0 (c - 1) n1 0 5 _ h0 HB2 rfl).mono ?_
        rintro e w4 ⟨rfl, bw4⟩
        replace hb := below_trans hb bw4
        clear bw4
        go_wp2
        go_ret
        exact ⟨rfl, hb⟩
      · have i3 : n2 < v2 := by omega
        clear hv hE hb1 hb2 i0 i1 ok hc kk
        go_enter Try.func9, Try.ntmps9
        go_wp2_with fail
        refine (P.rate_at _ [0, 3, 4, 5] _ _ 4 3 3 0 _ (by exact Ints.lit _ [0, 3, 4, 5] _ _ rfl (by decide)) L1 rfl).mono ?_
        rintro e w1 ⟨rfl, bw1⟩
        replace bw1 := below_of1 bw1
        replace h0 := h0.below bw1
        replace hb := below_trans hb bw1
        clear bw1
        go_wp2_with fail
        refine (P.rate_at a0 l0 _ c0 n1 n2 c 0 _ h0 HV rfl).mono ?_
        rintro e w2 ⟨rfl, bw2⟩
        replace h0 := h0.below bw2
        replace hb := below_trans hb bw2
        clear bw2
        go_wp2_with fail
        refine (K.bound_at a0 l0 _ c0 c n1 v1 0 _ h0 HB rfl).mono ?_
        rintro e w3 ⟨rfl, bw3⟩
        replace h0 := h0.below bw3
        replace hb := below_trans hb bw3
        clear bw3
        go_wp2_with fail
        refine (K.bound_at a0 l0 _ c0 (c - 1) n1 v2 0 _ h0 HB2 rfl).mono ?_
        rintro e w4 ⟨rfl, bw4⟩
        replace hb := below_trans hb bw4
        clear bw4
        go_wp2
        go_ret
        exact ⟨rfl, hb⟩
  · go_enter Try.func9, Try.ntmps9
    go_wp2_with fail
    refine (P.rate_at _ [0, 3, 4, 5] _ _ 4 3 3 0 _ (by exact Ints.lit _ [0, 3, 4, 5] _ _ rfl (by decide)) L1 rfl).mono ?_
    rintro e w1 ⟨rfl, bw1⟩
    replace bw1 := below_of1 bw1
    replace h0 := h0.below bw1
    replace hb := below_trans hb bw1
    clear bw1
    go_wp2_with fail
    refine (P.rate_at a0 l0 _ c0 n1 n2 0 5 _ h0 HV rfl).mono ?_
    rintro e w2 ⟨rfl, bw2⟩
    replace h0 := h0.below bw2
    replace hb := below_trans hb bw2
    clear bw2
    go_wp2
    go_ret
    exact ⟨rfl, hb⟩
  · have e1' : (E != 0) = true := by rw [e1]; simpa using q
    clear q e1
    go_enter Try.func9, Try.ntmps9
    go_wp2_with fail
    refine (P.rate_at _ [0, 3, 4, 5] _ _ 4 3 3 0 _ (by exact Ints.lit _ [0, 3, 4, 5] _ _ rfl (by decide)) L1 rfl).mono ?_
    rintro e w1 ⟨rfl, bw1⟩
    replace bw1 := below_of1 bw1
    replace h0 := h0.below bw1
    replace hb := below_trans hb bw1
    clear bw1
    go_wp2_with fail
    refine (P.rate_at a0 l0 _ c0 n1 n2 0 E _ h0 HV rfl).mono ?_
    rintro e w2 ⟨rfl, bw2⟩
    replace h0 := h0.below bw2
    replace hb := below_trans hb bw2
    clear bw2
    go_wp2
    go_ret
    exact ⟨rfl, hb⟩

set_option maxRecDepth 100000 in
set_option maxHeartbeats 3200000 in
theorem v_PlanRoom (K : CatC) (P : PlnC) (a0 : Option Addr) (c0 : Nat) (l0 : List Int) (n1 n2 : Int) (w : World)
    (h0 : Ints w a0 l0) (_k0 : l0.length ≤ c0) (_1 : (Lit.int .i64 n1).wf = true) (_2 : (Lit.int .i64 n2).wf = true) :
    Calls Try.prog 10 #[.slice a0 l0.length c0, .int .i64 n1, .int .i64 n2] w fun e w' => e = .returned (.bool true) ∧ Below w.heap.size w w' := by
  have hb : Below w.heap.size w w := Below.refl _ _
  have KC := Lib.hid _k0
  clear _k0 _1 _2
  have L1 : Hid (RmIs [0, 3, 4, 5] 3 3 4 0) := Lib.hid (rm_lit 3 4 (by decide) (by decide) (by decide))
  obtain ⟨c, E, hv⟩ := ex_rm l0 n1 n2
  have HV := Lib.hid hv
  rcases hv with ⟨hE, hv, rfl⟩ | ⟨_, _, rfl, rfl⟩ | ⟨q, rfl, e1⟩
  · have ok := rm_ok hE
    have d0 := ok.d0
    have d1 := ok.d1
    have c0' := hv.lo
    by_cases hc : 1000000 ≤ c
    · clear hv hE ok
      go_enter Try.func10, Try.ntmps10
      go_wp2_with fail
      refine (P.room_at _ [0, 3, 4, 5] _ _ 3 3 4 0 _ (by exact Ints.lit _ [0, 3, 4, 5] _ _ rfl (by decide)) (by decide) L1 rfl).mono ?_
      rintro e w1 ⟨rfl, bw1⟩
      replace bw1 := below_of1 bw1
      replace h0 := h0.below bw1
      replace hb := below_trans hb bw1
      clear bw1
      go_wp2_with fail
      refine (P.room_at a0 l0 _ c0 n1 n2 c 0 _ h0 KC.out HV rfl).mono ?_
      rintro e w2 ⟨rfl, bw2⟩
      replace h0 := h0.below bw2
      replace hb := below_trans hb bw2
      clear bw2
      go_wp2
      go_ret
      exact ⟨rfl, hb⟩
    · have i0 : ¬ 1000000 ≤ c := hc
      obtain ⟨v1, E1, hb1⟩ := ex_cb l0 n1 c
      obtain ⟨v2, E2, hb2⟩ := ex_cb l0 n1 (c + 1)
      obtain ⟨rfl, j0, j1⟩ := cb_at ⟨ok.cv, ok.r0, ok.r1, hv.lo, by omega⟩ (d := n2.toNat) (by omega) hv.hit hb1
      have i2 : v1 ≤ n2 := by omega
      have s1 : IntKind.i64.wrap (c + 1) = c + 1 := IntWalk.i64_in _ ⟨by omega, by omega⟩
      have kk := cb_not (d := n2.toNat) ⟨ok.cv, ok.r0, ok.r1, by omega, by omega⟩ (fun k => by have := hv.top (c + 1) (by omega) k; omega) hb2
      have HB := Lib.hid hb1
      have HB2 := Lib.hid hb2
      rcases kk with ⟨rfl, rfl⟩ | ⟨rfl, kk⟩
      · clear hv hE hb1 hb2 j0 j1 ok hc
        go_enter Try.func10, Try.ntmps10
        go_wp2_with fail
        refine (P.room_at _ [0, 3, 4, 5] _ _ 3 3 4 0 _ (by exact Ints.lit _ [0, 3, 4, 5] _ _ rfl (by decide)) (by decide) L1 rfl).mono ?_
        rintro e w1 ⟨rfl, bw1⟩
        replace bw1 := below_of1 bw1
        replace h0 := h0.below bw1
        replace hb := below_trans hb bw1
        clear bw1
        go_wp2_with fail
        refine (P.room_at a0 l0 _ c0 n1 n2 c 0 _ h0 KC.out HV rfl).mono ?_
        rintro e w2 ⟨rfl, bw2⟩
        replace h0 := h0.below bw2
        replace hb := below_trans hb bw2
        clear bw2
        go_wp2_with fail
        refine (K.bound_at a0 l0 _ c0 n1 c v1 0 _ h0 HB rfl).mono ?_
        rintro e w3 ⟨rfl, bw3⟩
        replace h0 := h0.below bw3
        replace hb := below_trans hb bw3
        clear bw3
        go_wp2_with fail
        refine (K.bound_at a0 l0 _ c0 n1 (c + 1) 0 5 _ h0 HB2 rfl).mono ?_
        rintro e w4 ⟨rfl, bw4⟩
        replace hb := below_trans hb bw4
        clear bw4
        go_wp2
        go_ret
        exact ⟨rfl, hb⟩
      · have i3 : n2 < v2 := by omega
        clear hv hE hb1 hb2 j0 j1 ok hc kk
        go_enter Try.func10, Try.ntmps10
        go_wp2_with fail
        refine (P.room_at _ [0, 3, 4, 5] _ _ 3 3 4 0 _ (by exact Ints.lit _ [0, 3, 4, 5] _ _ rfl (by decide)) (by decide) L1 rfl).mono ?_
        rintro e w1 ⟨rfl, bw1⟩
        replace bw1 := below_of1 bw1
        replace h0 := h0.below bw1
        replace hb := below_trans hb bw1
        clear bw1
        go_wp2_with fail
        refine (P.room_at a0 l0 _ c0 n1 n2 c 0 _ h0 KC.out HV rfl).mono ?_
        rintro e w2 ⟨rfl, bw2⟩
        replace h0 := h0.below bw2
        replace hb := below_trans hb bw2
        clear bw2
        go_wp2_with fail
        refine (K.bound_at a0 l0 _ c0 n1 c v1 0 _ h0 HB rfl).mono ?_
        rintro e w3 ⟨rfl, bw3⟩
        replace h0 := h0.below bw3
        replace hb := below_trans hb bw3
        clear bw3
        go_wp2_with fail
        refine (K.bound_at a0 l0 _ c0 n1 (c + 1) v2 0 _ h0 HB2 rfl).mono ?_
        rintro e w4 ⟨rfl, bw4⟩
        replace hb := below_trans hb bw4
        clear bw4
        go_wp2
        go_ret
        exact ⟨rfl, hb⟩
  · go_enter Try.func10, Try.ntmps10
    go_wp2_with fail
    refine (P.room_at _ [0, 3, 4, 5] _ _ 3 3 4 0 _ (by exact Ints.lit _ [0, 3, 4, 5] _ _ rfl (by decide)) (by decide) L1 rfl).mono ?_
    rintro e w1 ⟨rfl, bw1⟩
    replace bw1 := below_of1 bw1
    replace h0 := h0.below bw1
    replace hb := below_trans hb bw1
    clear bw1
    go_wp2_with fail
    refine (P.room_at a0 l0 _ c0 n1 n2 0 5 _ h0 KC.out HV rfl).mono ?_
    rintro e w2 ⟨rfl, bw2⟩
    replace h0 := h0.below bw2
    replace hb := below_trans hb bw2
    clear bw2
    go_wp2
    go_ret
    exact ⟨rfl, hb⟩
  · have e1' : (E != 0) = true := by rw [e1]; simpa using q
    clear q e1
    go_enter Try.func10, Try.ntmps10
    go_wp2_with fail
    refine (P.room_at _ [0, 3, 4, 5] _ _ 3 3 4 0 _ (by exact Ints.lit _ [0, 3, 4, 5] _ _ rfl (by decide)) (by decide) L1 rfl).mono ?_
    rintro e w1 ⟨rfl, bw1⟩
    replace bw1 := below_of1 bw1
    replace h0 := h0.below bw1
    replace hb := below_trans hb bw1
    clear bw1
    go_wp2_with fail
    refine (P.room_at a0 l0 _ c0 n1 n2 0 E _ h0 KC.out HV rfl).mono ?_
    rintro e w2 ⟨rfl, bw2⟩
    replace h0 := h0.below bw2
    replace hb := below_trans hb bw2
    clear bw2
    go_wp2
    go_ret
    exact ⟨rfl, hb⟩

end Go.Proofs.Ytnjeelmlabefjaa
