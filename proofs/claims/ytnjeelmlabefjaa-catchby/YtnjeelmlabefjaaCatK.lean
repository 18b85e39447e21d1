
/-
  The walks of the laws CatchBy and CatchEver over the contracts of package catch.
-/
import Derived.Test.YtnjeelmlabefjaaCatC
import Derived.Test.YtnjeelmlabefjaaTraceB
namespace Go.Proofs.Ytnjeelmlabefjaa
set_option linter.all false
open Go.RowKit Go.Shelf



set_option maxRecDepth 100000 in
set_option maxHeartbeats 3200000 in
theorem v_CatchBy (K : CatC) (a0 : Option Addr) (c0 : Nat) (l0 : List Int) (a1 : Option Addr) (c1 : Nat) (l1 : List Int) (n1 n2 : Int) (w : World)
    (h0 : Ints w a0 l0) (_k0 : l0.length ≤ c0) (h1 : Ints w a1 l1) (_k1 : l1.length ≤ c1) (_1 : (Lit.int .i64 n1).wf = true) (_2 : (Lit.int .i64 n2).wf = true) :
    Calls Try.prog 6 #[.slice a0 l0.length c0, .slice a1 l1.length c1, .int .i64 n1, .int .i64 n2] w fun e w' => e = .returned (.bool true) ∧ Below w.heap.size w w' := by
  have hb : Below w.heap.size w w := Below.refl _ _
  clear _k0 _k1 _1 _2
  have L1 : Hid (CbIs [0, 3, 4, 5] 3 4 3 0) := Lib.hid (cb_lit 3 (by decide) (by decide) (by decide) (by decide))
  have L2 : Hid (DnIs [3, 1, 1] 3 4 3 0) := Lib.hid (dn_lit 3 (by decide) (by decide) (by decide) (by decide))
  by_cases hT : trk l0 = 0
  · have v := trk_iff.1 hT
    have hle := v.le
    have HLA : Hid ((adL l0).length = l0.length + 1) := Lib.hid (length_adL _)
    have va := ad_cv v
    clear hT
    cases ho : okB (adL l0) l1
    · have HO := Lib.hid ho
      clear ho
      go_enter Try.func6, Try.ntmps6
      go_wp2_with fail
      refine (K.bound_at _ [0, 3, 4, 5] _ _ 3 4 3 0 _ (by exact Ints.lit _ [0, 3, 4, 5] _ _ rfl (by decide)) L1 rfl).mono ?_
      rintro e w1 ⟨rfl, bw1⟩
      replace bw1 := below_of1 bw1
      replace h0 := h0.below bw1
      replace h1 := h1.below bw1
      replace hb := below_trans hb bw1
      clear bw1
      go_wp2_with fail
      refine (K.done_at _ [3, 1, 1] _ _ 3 4 3 0 _ (by exact Ints.lit _ [3, 1, 1] _ _ rfl (by decide)) L2 rfl).mono ?_
      rintro e w2 ⟨rfl, bw2⟩
      replace bw2 := below_of1 bw2
      replace h0 := h0.below bw2
      replace h1 := h1.below bw2
      replace hb := below_trans hb bw2
      clear bw2
      go_wp2_with fail
      refine (sum_yes' a0 l0 (adL l0) _ (adL l0).length c0 _ v (Lib.hid rfl) h0 rfl HLA.out).mono ?_
      rintro e w3 ⟨Af, cf, rfl, hf, kf, bw3⟩
      replace h0 := h0.below bw3
      replace h1 := h1.below bw3
      replace hb := below_trans hb bw3
      clear bw3
      go_wp2_with fail
      refine (both_any Af a1 (adL l0) l1 cf c1 _ hf h1).mono ?_
      rintro e w' ⟨rfl, rfl⟩
      rw [HO.out]
      go_wp2
      go_ret
      exact ⟨rfl, hb⟩
    · obtain ⟨_, hv1, hl1⟩ := okB_iff.1 ho
      have v1 := cv_of hv1
      have HO := Lib.hid ho
      have HL1 := Lib.hid hl1
      obtain ⟨d, E, hd⟩ := ex_cb l1 n1 n2
      have HV := Lib.hid hd
      obtain ⟨s, hs⟩ : ∃ s, fitB (adL l0) l1 = s := ⟨_, rfl⟩
      have HS := Lib.hid hs
      rcases hd with ⟨hE, n, hd, rfl, rfl⟩ | ⟨_, _, rfl, rfl⟩ | ⟨q, rfl, e1⟩
      · cases s
        · clear ho hv1 hl1 hE hd hs
          go_enter Try.func6, Try.ntmps6
          go_wp2_with fail
          refine (K.bound_at _ [0, 3, 4, 5] _ _ 3 4 3 0 _ (by exact Ints.lit _ [0, 3, 4, 5] _ _ rfl (by decide)) L1 rfl).mono ?_
          rintro e w1 ⟨rfl, bw1⟩
          replace bw1 := below_of1 bw1
          replace h0 := h0.below bw1
          replace h1 := h1.below bw1
          replace hb := below_trans hb bw1
          clear bw1
          go_wp2_with fail
          refine (K.done_at _ [3, 1, 1] _ _ 3 4 3 0 _ (by exact Ints.lit _ [3, 1, 1] _ _ rfl (by decide)) L2 rfl).mono ?_
          rintro e w2 ⟨rfl, bw2⟩
          replace bw2 := below_of1 bw2
          replace h0 := h0.below bw2
          replace h1 := h1.below bw2
          replace hb := below_trans hb bw2
          clear bw2
          go_wp2_with fail
          refine (sum_yes' a0 l0 (adL l0) _ (adL l0).length c0 _ v (Lib.hid rfl) h0 rfl HLA.out).mono ?_
          rintro e w3 ⟨Af, cf, rfl, hf, kf, bw3⟩
          replace h0 := h0.below bw3
          replace h1 := h1.below bw3
          replace hb := below_trans hb bw3
          clear bw3
          go_wp2_with fail
          refine (both_any Af a1 (adL l0) l1 cf c1 _ hf h1).mono ?_
          rintro e w' ⟨rfl, rfl⟩
          rw [HO.out]
          go_wp2_with fail
          refine (fits_yes Af a1 (adL l0) l1 _ _ cf c1 false _ va v1 HL1.out HS hf h1 kf rfl rfl).mono ?_
          rintro e w4 ⟨rfl, bw4⟩
          replace h0 := h0.below bw4
          replace h1 := h1.below bw4
          replace hb := below_trans hb bw4
          clear bw4
          go_wp2_with fail
          refine (K.bound_at a1 l1 _ c1 n1 n2 n 0 _ h1 HV rfl).mono ?_
          rintro e w5 ⟨rfl, bw5⟩
          replace h0 := h0.below bw5
          replace hb := below_trans hb bw5
          clear bw5
          go_wp2
          go_ret
          exact ⟨rfl, hb⟩
        · have ok := cb_ok hE
          have hf' := (fitB_iff va v1 hl1).1 hs
          have hn := hd.lt
          have hL := length_adL l0
          obtain ⟨m, hm, hz⟩ := catch_by ok.g0 hf' (by omega) hd.hit
          obtain ⟨x, D, hx⟩ := ex_dn l0 n1 n2
          have HX := Lib.hid hx
          have hlg := lg_of ⟨v, ok.r0, ok.r1, ok.g0, ok.g1⟩
          rcases hx with ⟨_, k, hx, rfl, rfl⟩ | ⟨_, hx, _⟩ | ⟨q, _⟩
          · have i1 : (k : Int) ≤ (n : Int) := by have := hx.least hz; omega
            clear ho hv1 hl1 hE hd hs ok hf' hn hL hm hz hlg hx
            go_enter Try.func6, Try.ntmps6
            go_wp2_with fail
            refine (K.bound_at _ [0, 3, 4, 5] _ _ 3 4 3 0 _ (by exact Ints.lit _ [0, 3, 4, 5] _ _ rfl (by decide)) L1 rfl).mono ?_
            rintro e w1 ⟨rfl, bw1⟩
            replace bw1 := below_of1 bw1
            replace h0 := h0.below bw1
            replace h1 := h1.below bw1
            replace hb := below_trans hb bw1
            clear bw1
            go_wp2_with fail
            refine (K.done_at _ [3, 1, 1] _ _ 3 4 3 0 _ (by exact Ints.lit _ [3, 1, 1] _ _ rfl (by decide)) L2 rfl).mono ?_
            rintro e w2 ⟨rfl, bw2⟩
            replace bw2 := below_of1 bw2
            replace h0 := h0.below bw2
            replace h1 := h1.below bw2
            replace hb := below_trans hb bw2
            clear bw2
            go_wp2_with fail
            refine (sum_yes' a0 l0 (adL l0) _ (adL l0).length c0 _ v (Lib.hid rfl) h0 rfl HLA.out).mono ?_
            rintro e w3 ⟨Af, cf, rfl, hf, kf, bw3⟩
            replace h0 := h0.below bw3
            replace h1 := h1.below bw3
            replace hb := below_trans hb bw3
            clear bw3
            go_wp2_with fail
            refine (both_any Af a1 (adL l0) l1 cf c1 _ hf h1).mono ?_
            rintro e w' ⟨rfl, rfl⟩
            rw [HO.out]
            go_wp2_with fail
            refine (fits_yes Af a1 (adL l0) l1 _ _ cf c1 true _ va v1 HL1.out HS hf h1 kf rfl rfl).mono ?_
            rintro e w4 ⟨rfl, bw4⟩
            replace h0 := h0.below bw4
            replace h1 := h1.below bw4
            replace hb := below_trans hb bw4
            clear bw4
            go_wp2_with fail
            refine (K.bound_at a1 l1 _ c1 n1 n2 n 0 _ h1 HV rfl).mono ?_
            rintro e w5 ⟨rfl, bw5⟩
            replace h0 := h0.below bw5
            replace hb := below_trans hb bw5
            clear bw5
            go_wp2_with fail
            refine (K.done_at a0 l0 _ c0 n1 n2 k 0 _ h0 HX rfl).mono ?_
            rintro e w6 ⟨rfl, bw6⟩
            replace hb := below_trans hb bw6
            clear bw6
            go_wp2
            go_ret
            exact ⟨rfl, hb⟩
          · exact absurd hz (hx m (by omega))
          · exact absurd hlg q
      · clear ho hv1 hl1 hs
        go_enter Try.func6, Try.ntmps6
        go_wp2_with fail
        refine (K.bound_at _ [0, 3, 4, 5] _ _ 3 4 3 0 _ (by exact Ints.lit _ [0, 3, 4, 5] _ _ rfl (by decide)) L1 rfl).mono ?_
        rintro e w1 ⟨rfl, bw1⟩
        replace bw1 := below_of1 bw1
        replace h0 := h0.below bw1
        replace h1 := h1.below bw1
        replace hb := below_trans hb bw1
        clear bw1
        go_wp2_with fail
        refine (K.done_at _ [3, 1, 1] _ _ 3 4 3 0 _ (by exact Ints.lit _ [3, 1, 1] _ _ rfl (by decide)) L2 rfl).mono ?_
        rintro e w2 ⟨rfl, bw2⟩
        replace bw2 := below_of1 bw2
        replace h0 := h0.below bw2
        replace h1 := h1.below bw2
        replace hb := below_trans hb bw2
        clear bw2
        go_wp2_with fail
        refine (sum_yes' a0 l0 (adL l0) _ (adL l0).length c0 _ v (Lib.hid rfl) h0 rfl HLA.out).mono ?_
        rintro e w3 ⟨Af, cf, rfl, hf, kf, bw3⟩
        replace h0 := h0.below bw3
        replace h1 := h1.below bw3
        replace hb := below_trans hb bw3
        clear bw3
        go_wp2_with fail
        refine (both_any Af a1 (adL l0) l1 cf c1 _ hf h1).mono ?_
        rintro e w' ⟨rfl, rfl⟩
        rw [HO.out]
        go_wp2_with fail
        refine (fits_yes Af a1 (adL l0) l1 _ _ cf c1 s _ va v1 HL1.out HS hf h1 kf rfl rfl).mono ?_
        rintro e w4 ⟨rfl, bw4⟩
        replace h0 := h0.below bw4
        replace h1 := h1.below bw4
        replace hb := below_trans hb bw4
        clear bw4
        go_wp2_with fail
        refine (K.bound_at a1 l1 _ c1 n1 n2 0 5 _ h1 HV rfl).mono ?_
        rintro e w5 ⟨rfl, bw5⟩
        replace h0 := h0.below bw5
        replace hb := below_trans hb bw5
        clear bw5
        go_wp2
        go_ret
        exact ⟨rfl, hb⟩
      · have e1' : (E != 0) = true := by rw [e1]; simpa using q
        clear ho hv1 hl1 hs q e1
        go_enter Try.func6, Try.ntmps6
        go_wp2_with fail
        refine (K.bound_at _ [0, 3, 4, 5] _ _ 3 4 3 0 _ (by exact Ints.lit _ [0, 3, 4, 5] _ _ rfl (by decide)) L1 rfl).mono ?_
        rintro e w1 ⟨rfl, bw1⟩
        replace bw1 := below_of1 bw1
        replace h0 := h0.below bw1
        replace h1 := h1.below bw1
        replace hb := below_trans hb bw1
        clear bw1
        go_wp2_with fail
        refine (K.done_at _ [3, 1, 1] _ _ 3 4 3 0 _ (by exact Ints.lit _ [3, 1, 1] _ _ rfl (by decide)) L2 rfl).mono ?_
        rintro e w2 ⟨rfl, bw2⟩
        replace bw2 := below_of1 bw2
        replace h0 := h0.below bw2
        replace h1 := h1.below bw2
        replace hb := below_trans hb bw2
        clear bw2
        go_wp2_with fail
        refine (sum_yes' a0 l0 (adL l0) _ (adL l0).length c0 _ v (Lib.hid rfl) h0 rfl HLA.out).mono ?_
        rintro e w3 ⟨Af, cf, rfl, hf, kf, bw3⟩
        replace h0 := h0.below bw3
        replace h1 := h1.below bw3
        replace hb := below_trans hb bw3
        clear bw3
        go_wp2_with fail
        refine (both_any Af a1 (adL l0) l1 cf c1 _ hf h1).mono ?_
        rintro e w' ⟨rfl, rfl⟩
        rw [HO.out]
        go_wp2_with fail
        refine (fits_yes Af a1 (adL l0) l1 _ _ cf c1 s _ va v1 HL1.out HS hf h1 kf rfl rfl).mono ?_
        rintro e w4 ⟨rfl, bw4⟩
        replace h0 := h0.below bw4
        replace h1 := h1.below bw4
        replace hb := below_trans hb bw4
        clear bw4
        go_wp2_with fail
        refine (K.bound_at a1 l1 _ c1 n1 n2 0 E _ h1 HV rfl).mono ?_
        rintro e w5 ⟨rfl, bw5⟩
        replace h0 := h0.below bw5
        replace hb := below_trans hb bw5
        clear bw5
        go_wp2
        go_ret
        exact ⟨rfl, hb⟩
  · have e1 : (trk l0 != 0) = true := by simp [hT]
    clear hT
    go_enter Try.func6, Try.ntmps6
    go_wp2_with fail
    refine (K.bound_at _ [0, 3, 4, 5] _ _ 3 4 3 0 _ (by exact Ints.lit _ [0, 3, 4, 5] _ _ rfl (by decide)) L1 rfl).mono ?_
    rintro e w1 ⟨rfl, bw1⟩
    replace bw1 := below_of1 bw1
    replace h0 := h0.below bw1
    replace h1 := h1.below bw1
    replace hb := below_trans hb bw1
    clear bw1
    go_wp2_with fail
    refine (K.done_at _ [3, 1, 1] _ _ 3 4 3 0 _ (by exact Ints.lit _ [3, 1, 1] _ _ rfl (by decide)) L2 rfl).mono ?_
    rintro e w2 ⟨rfl, bw2⟩
    replace bw2 := below_of1 bw2
    replace h0 := h0.below bw2
    replace h1 := h1.below bw2
    replace hb := below_trans hb bw2
    clear bw2
    go_wp2_with fail
    refine (trSum_any a0 l0 c0 _ h0).mono ?_
    rintro e w3 ⟨Af, cf, rfl, of, bw3⟩
    replace h0 := h0.below bw3
    replace h1 := h1.below bw3
    replace hb := below_trans hb bw3
    have hf := Ints.of_own of
    clear bw3 of
    go_wp2
    go_ret
    exact ⟨rfl, hb⟩

end Go.Proofs.Ytnjeelmlabefjaa
