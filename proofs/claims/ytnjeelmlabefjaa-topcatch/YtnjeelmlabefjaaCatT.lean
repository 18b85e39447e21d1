
/-
  The walk of the law TopCatch over the contracts of packages catch and plan.
-/
import Derived.Test.YtnjeelmlabefjaaCatC
import Derived.Test.YtnjeelmlabefjaaTraceB
import Derived.Test.YtnjeelmlabefjaaBegA
namespace Go.Proofs.Ytnjeelmlabefjaa
set_option linter.all false
open Go.RowKit Go.Shelf



set_option maxRecDepth 100000 in
set_option maxHeartbeats 3200000 in
theorem v_TopCatch (K : CatC) (P : PlnC) (a0 : Option Addr) (c0 : Nat) (l0 : List Int) (a1 : Option Addr) (c1 : Nat) (l1 : List Int) (n1 n2 : Int) (w : World)
    (h0 : Ints w a0 l0) (_k0 : l0.length ≤ c0) (h1 : Ints w a1 l1) (_k1 : l1.length ≤ c1) (_1 : (Lit.int .i64 n1).wf = true) (_2 : (Lit.int .i64 n2).wf = true) :
    Calls Try.prog 14 #[.slice a0 l0.length c0, .slice a1 l1.length c1, .int .i64 n1, .int .i64 n2] w fun e w' => e = .returned (.bool true) ∧ Below w.heap.size w w' := by
  have hb : Below w.heap.size w w := Below.refl _ _
  have KC := Lib.hid _k1
  clear _k0 _k1 _1 _2
  by_cases hT : trk l0 = 0
  · have v := trk_iff.1 hT
    have hle := v.le
    have HLA : Hid ((adL l0).length = l0.length + 1) := Lib.hid (length_adL _)
    have va := ad_cv v
    clear hT
    by_cases hC : chk l1 = 0
    · have v1 := cv_of hC
      have HC := Lib.hid hC
      clear hC
      by_cases hL : l1.length = (adL l0).length
      · have e1 : ((l1.length : Int) != ((adL l0).length : Int)) = false := by rw [hL]; simp
        have e2 : (l1.length != (adL l0).length) = false := by rw [hL]; simp
        have HL1 := Lib.hid hL.symm
        obtain ⟨c, E, hd⟩ := ex_rt l1 n1 n2
        have HV := Lib.hid hd
        obtain ⟨s, hs⟩ : ∃ s, fitB (adL l0) l1 = s := ⟨_, rfl⟩
        have HS := Lib.hid hs
        rcases hd with ⟨hE, hd, rfl⟩ | ⟨_, _, rfl, rfl⟩ | ⟨q, rfl, q1⟩
        · cases s
          · clear hE hd hs hL
            go_enter Try.func14, Try.ntmps14
            go_wp2_with fail
            refine (sum_yes' a0 l0 (adL l0) _ (adL l0).length c0 _ v (Lib.hid rfl) h0 rfl HLA.out).mono ?_
            rintro e w1 ⟨Af, cf, rfl, hf, kf, bw1⟩
            replace h0 := h0.below bw1
            replace h1 := h1.below bw1
            replace hb := below_trans hb bw1
            clear bw1
            go_wp2_with fail
            refine (begin_any _).mono ?_
            rintro e w2 ⟨rfl, bw2⟩
            replace h0 := h0.below bw2
            replace h1 := h1.below bw2
            replace hf := hf.below bw2
            replace hb := below_trans hb bw2
            clear bw2
            go_wp2_with fail
            refine (check_any a1 l1 c1 _ h1).mono ?_
            rintro e w' ⟨rfl, rfl⟩
            rw [HC.out]
            go_wp2_with fail
            refine (fits_yes Af a1 (adL l0) l1 _ _ cf c1 false _ va v1 HL1.out HS hf h1 kf rfl rfl).mono ?_
            rintro e w3 ⟨rfl, bw3⟩
            replace h0 := h0.below bw3
            replace h1 := h1.below bw3
            replace hb := below_trans hb bw3
            clear bw3
            go_wp2_with fail
            refine (P.rate_at a1 l1 _ c1 n1 n2 c 0 _ h1 HV rfl).mono ?_
            rintro e w4 ⟨rfl, bw4⟩
            replace h0 := h0.below bw4
            replace h1 := h1.below bw4
            replace hb := below_trans hb bw4
            clear bw4
            go_wp2
            go_ret
            exact ⟨rfl, hb⟩
          · have ok := rt_ok hE
            have hf' := (fitB_iff va v1 hL.symm).1 hs
            have d0 := ok.d0
            have d1 := ok.d1
            have hLA := HLA.out
            obtain ⟨m, hm, hz⟩ := plan_catch hd ok.g0 hf' (by omega)
            obtain ⟨x, D, hx⟩ := ex_dn l0 c n1
            obtain ⟨o, F, ho⟩ := ex_rm l1 c n2
            have HX := Lib.hid hx
            have HO := Lib.hid ho
            have hlg := lg_of ⟨v, hd.lo, hd.hi, ok.g0, ok.g1⟩
            have hrm := rm_of ⟨v1, d0, d1, hd.lo, hd.hi⟩
            rcases hx with ⟨_, k, hx, rfl, rfl⟩ | ⟨_, hx, _⟩ | ⟨q, _⟩
            · have i1 : (k : Int) ≤ n2 := by have := hx.least hz; omega
              rcases ho with ⟨_, ho, rfl⟩ | ⟨_, ho, _⟩ | ⟨q, _⟩
              · have i2 : n1 ≤ o := ho.top n1 ok.g0 hd.hit
                clear d0 d1 hLA
                clear hE hd hs hL ok hf' hm hz hlg hrm hx ho
                go_enter Try.func14, Try.ntmps14
                go_wp2_with fail
                refine (sum_yes' a0 l0 (adL l0) _ (adL l0).length c0 _ v (Lib.hid rfl) h0 rfl HLA.out).mono ?_
                rintro e w1 ⟨Af, cf, rfl, hf, kf, bw1⟩
                replace h0 := h0.below bw1
                replace h1 := h1.below bw1
                replace hb := below_trans hb bw1
                clear bw1
                go_wp2_with fail
                refine (begin_any _).mono ?_
                rintro e w2 ⟨rfl, bw2⟩
                replace h0 := h0.below bw2
                replace h1 := h1.below bw2
                replace hf := hf.below bw2
                replace hb := below_trans hb bw2
                clear bw2
                go_wp2_with fail
                refine (check_any a1 l1 c1 _ h1).mono ?_
                rintro e w' ⟨rfl, rfl⟩
                rw [HC.out]
                go_wp2_with fail
                refine (fits_yes Af a1 (adL l0) l1 _ _ cf c1 true _ va v1 HL1.out HS hf h1 kf rfl rfl).mono ?_
                rintro e w3 ⟨rfl, bw3⟩
                replace h0 := h0.below bw3
                replace h1 := h1.below bw3
                replace hb := below_trans hb bw3
                clear bw3
                go_wp2_with fail
                refine (P.rate_at a1 l1 _ c1 n1 n2 c 0 _ h1 HV rfl).mono ?_
                rintro e w4 ⟨rfl, bw4⟩
                replace h0 := h0.below bw4
                replace h1 := h1.below bw4
                replace hb := below_trans hb bw4
                clear bw4
                go_wp2_with fail
                refine (K.done_at a0 l0 _ c0 c n1 k 0 _ h0 HX rfl).mono ?_
                rintro e w5 ⟨rfl, bw5⟩
                replace h0 := h0.below bw5
                replace h1 := h1.below bw5
                replace hb := below_trans hb bw5
                clear bw5
                go_wp2_with fail
                refine (P.room_at a1 l1 _ c1 c n2 o 0 _ h1 KC.out HO rfl).mono ?_
                rintro e w6 ⟨rfl, bw6⟩
                replace hb := below_trans hb bw6
                clear bw6
                go_wp2
                go_ret
                exact ⟨rfl, hb⟩
              · exact absurd hd.hit (ho n1 ok.g0)
              · exact absurd hrm q
            · exact absurd hz (hx m (by omega))
            · exact absurd hlg q
        · clear hs hL
          cases s
          · skip
            go_enter Try.func14, Try.ntmps14
            go_wp2_with fail
            refine (sum_yes' a0 l0 (adL l0) _ (adL l0).length c0 _ v (Lib.hid rfl) h0 rfl HLA.out).mono ?_
            rintro e w1 ⟨Af, cf, rfl, hf, kf, bw1⟩
            replace h0 := h0.below bw1
            replace h1 := h1.below bw1
            replace hb := below_trans hb bw1
            clear bw1
            go_wp2_with fail
            refine (begin_any _).mono ?_
            rintro e w2 ⟨rfl, bw2⟩
            replace h0 := h0.below bw2
            replace h1 := h1.below bw2
            replace hf := hf.below bw2
            replace hb := below_trans hb bw2
            clear bw2
            go_wp2_with fail
            refine (check_any a1 l1 c1 _ h1).mono ?_
            rintro e w' ⟨rfl, rfl⟩
            rw [HC.out]
            go_wp2_with fail
            refine (fits_yes Af a1 (adL l0) l1 _ _ cf c1 false _ va v1 HL1.out HS hf h1 kf rfl rfl).mono ?_
            rintro e w3 ⟨rfl, bw3⟩
            replace h0 := h0.below bw3
            replace h1 := h1.below bw3
            replace hb := below_trans hb bw3
            clear bw3
            go_wp2_with fail
            refine (P.rate_at a1 l1 _ c1 n1 n2 0 5 _ h1 HV rfl).mono ?_
            rintro e w4 ⟨rfl, bw4⟩
            replace h0 := h0.below bw4
            replace h1 := h1.below bw4
            replace hb := below_trans hb bw4
            clear bw4
            go_wp2
            go_ret
            exact ⟨rfl, hb⟩
          · skip
            go_enter Try.func14, Try.ntmps14
            go_wp2_with fail
            refine (sum_yes' a0 l0 (adL l0) _ (adL l0).length c0 _ v (Lib.hid rfl) h0 rfl HLA.out).mono ?_
            rintro e w1 ⟨Af, cf, rfl, hf, kf, bw1⟩
            replace h0 := h0.below bw1
            replace h1 := h1.below bw1
            replace hb := below_trans hb bw1
            clear bw1
            go_wp2_with fail
            refine (begin_any _).mono ?_
            rintro e w2 ⟨rfl, bw2⟩
            replace h0 := h0.below bw2
            replace h1 := h1.below bw2
            replace hf := hf.below bw2
            replace hb := below_trans hb bw2
            clear bw2
            go_wp2_with fail
            refine (check_any a1 l1 c1 _ h1).mono ?_
            rintro e w' ⟨rfl, rfl⟩
            rw [HC.out]
            go_wp2_with fail
            refine (fits_yes Af a1 (adL l0) l1 _ _ cf c1 true _ va v1 HL1.out HS hf h1 kf rfl rfl).mono ?_
            rintro e w3 ⟨rfl, bw3⟩
            replace h0 := h0.below bw3
            replace h1 := h1.below bw3
            replace hb := below_trans hb bw3
            clear bw3
            go_wp2_with fail
            refine (P.rate_at a1 l1 _ c1 n1 n2 0 5 _ h1 HV rfl).mono ?_
            rintro e w4 ⟨rfl, bw4⟩
            replace h0 := h0.below bw4
            replace h1 := h1.below bw4
            replace hb := below_trans hb bw4
            clear bw4
            go_wp2
            go_ret
            exact ⟨rfl, hb⟩
        · have e1' : (E != 0) = true := by rw [q1]; simpa using q
          clear hs hL q q1
          cases s
          · skip
            go_enter Try.func14, Try.ntmps14
            go_wp2_with fail
            refine (sum_yes' a0 l0 (adL l0) _ (adL l0).length c0 _ v (Lib.hid rfl) h0 rfl HLA.out).mono ?_
            rintro e w1 ⟨Af, cf, rfl, hf, kf, bw1⟩
            replace h0 := h0.below bw1
            replace h1 := h1.below bw1
            replace hb := below_trans hb bw1
            clear bw1
            go_wp2_with fail
            refine (begin_any _).mono ?_
            rintro e w2 ⟨rfl, bw2⟩
            replace h0 := h0.below bw2
            replace h1 := h1.below bw2
            replace hf := hf.below bw2
            replace hb := below_trans hb bw2
            clear bw2
            go_wp2_with fail
            refine (check_any a1 l1 c1 _ h1).mono ?_
            rintro e w' ⟨rfl, rfl⟩
            rw [HC.out]
            go_wp2_with fail
            refine (fits_yes Af a1 (adL l0) l1 _ _ cf c1 false _ va v1 HL1.out HS hf h1 kf rfl rfl).mono ?_
            rintro e w3 ⟨rfl, bw3⟩
            replace h0 := h0.below bw3
            replace h1 := h1.below bw3
            replace hb := below_trans hb bw3
            clear bw3
            go_wp2_with fail
            refine (P.rate_at a1 l1 _ c1 n1 n2 0 E _ h1 HV rfl).mono ?_
            rintro e w4 ⟨rfl, bw4⟩
            replace h0 := h0.below bw4
            replace h1 := h1.below bw4
            replace hb := below_trans hb bw4
            clear bw4
            go_wp2
            go_ret
            exact ⟨rfl, hb⟩
          · skip
            go_enter Try.func14, Try.ntmps14
            go_wp2_with fail
            refine (sum_yes' a0 l0 (adL l0) _ (adL l0).length c0 _ v (Lib.hid rfl) h0 rfl HLA.out).mono ?_
            rintro e w1 ⟨Af, cf, rfl, hf, kf, bw1⟩
            replace h0 := h0.below bw1
            replace h1 := h1.below bw1
            replace hb := below_trans hb bw1
            clear bw1
            go_wp2_with fail
            refine (begin_any _).mono ?_
            rintro e w2 ⟨rfl, bw2⟩
            replace h0 := h0.below bw2
            replace h1 := h1.below bw2
            replace hf := hf.below bw2
            replace hb := below_trans hb bw2
            clear bw2
            go_wp2_with fail
            refine (check_any a1 l1 c1 _ h1).mono ?_
            rintro e w' ⟨rfl, rfl⟩
            rw [HC.out]
            go_wp2_with fail
            refine (fits_yes Af a1 (adL l0) l1 _ _ cf c1 true _ va v1 HL1.out HS hf h1 kf rfl rfl).mono ?_
            rintro e w3 ⟨rfl, bw3⟩
            replace h0 := h0.below bw3
            replace h1 := h1.below bw3
            replace hb := below_trans hb bw3
            clear bw3
            go_wp2_with fail
            refine (P.rate_at a1 l1 _ c1 n1 n2 0 E _ h1 HV rfl).mono ?_
            rintro e w4 ⟨rfl, bw4⟩
            replace h0 := h0.below bw4
            replace h1 := h1.below bw4
            replace hb := below_trans hb bw4
            clear bw4
            go_wp2
            go_ret
            exact ⟨rfl, hb⟩
      · have e1 : ((l1.length : Int) != ((adL l0).length : Int)) = true := by simp; omega
        have e2 : (l1.length != (adL l0).length) = true := by simp; exact hL
        clear hL
        go_enter Try.func14, Try.ntmps14
        go_wp2_with fail
        refine (sum_yes' a0 l0 (adL l0) _ (adL l0).length c0 _ v (Lib.hid rfl) h0 rfl HLA.out).mono ?_
        rintro e w1 ⟨Af, cf, rfl, hf, kf, bw1⟩
        replace h0 := h0.below bw1
        replace h1 := h1.below bw1
        replace hb := below_trans hb bw1
        clear bw1
        go_wp2_with fail
        refine (begin_any _).mono ?_
        rintro e w2 ⟨rfl, bw2⟩
        replace h0 := h0.below bw2
        replace h1 := h1.below bw2
        replace hf := hf.below bw2
        replace hb := below_trans hb bw2
        clear bw2
        go_wp2_with fail
        refine (check_any a1 l1 c1 _ h1).mono ?_
        rintro e w' ⟨rfl, rfl⟩
        rw [HC.out]
        go_wp2_with fail
        refine (begin_any _).mono ?_
        rintro e w3 ⟨rfl, bw3⟩
        replace hb := below_trans hb bw3
        clear bw3
        go_wp2
        go_ret
        exact ⟨rfl, hb⟩
    · have t1 : (chk l1 != 0) = true := by simp [hC]
      clear hC
      go_enter Try.func14, Try.ntmps14
      go_wp2_with fail
      refine (sum_yes' a0 l0 (adL l0) _ (adL l0).length c0 _ v (Lib.hid rfl) h0 rfl HLA.out).mono ?_
      rintro e w1 ⟨Af, cf, rfl, hf, kf, bw1⟩
      replace h0 := h0.below bw1
      replace h1 := h1.below bw1
      replace hb := below_trans hb bw1
      clear bw1
      go_wp2_with fail
      refine (begin_any _).mono ?_
      rintro e w2 ⟨rfl, bw2⟩
      replace h0 := h0.below bw2
      replace h1 := h1.below bw2
      replace hf := hf.below bw2
      replace hb := below_trans hb bw2
      clear bw2
      go_wp2_with fail
      refine (check_any a1 l1 c1 _ h1).mono ?_
      rintro e w' ⟨rfl, rfl⟩
      go_wp2_with fail
      refine (begin_any _).mono ?_
      rintro e w3 ⟨rfl, bw3⟩
      replace hb := below_trans hb bw3
      clear bw3
      go_wp2
      go_ret
      exact ⟨rfl, hb⟩
  · have e1 : (trk l0 != 0) = true := by simp [hT]
    clear hT
    go_enter Try.func14, Try.ntmps14
    go_wp2_with fail
    refine (trSum_any a0 l0 c0 _ h0).mono ?_
    rintro e w1 ⟨Af, cf, rfl, of, bw1⟩
    replace h0 := h0.below bw1
    replace h1 := h1.below bw1
    replace hb := below_trans hb bw1
    have hf := Ints.of_own of
    clear bw1 of
    go_wp2_with fail
    refine (begin_any _).mono ?_
    rintro e w2 ⟨rfl, bw2⟩
    replace h0 := h0.below bw2
    replace h1 := h1.below bw2
    replace hb := below_trans hb bw2
    clear bw2
    go_wp2_with fail
    refine (begin_any _).mono ?_
    rintro e w3 ⟨rfl, bw3⟩
    replace hb := below_trans hb bw3
    clear bw3
    go_wp2
    go_ret
    exact ⟨rfl, hb⟩

end Go.Proofs.Ytnjeelmlabefjaa
