
/-
  The walk of the law TopFirst.
-/
import Derived.Test.YthngolnflogdnaaPrioA
import Derived.Test.YthngolnflogdnaaTopA
import Derived.Test.YthngolnflogdnaaBoundK
namespace Go.Proofs.Ythngolnflogdnaa
set_option linter.all false
open Go.RowKit Go.Shelf


theorem fits_gen (A A' : Option Addr) (l m : List Int) (nl nm c d : Nat) (s : Bool) (E : Int) (w : World) (hs : Hid ((decide (chk2 l m = 0) && fitB l m) = s)) (hE : Hid (chk2 l m = E)) (h : Ints w A l) (h' : Ints w A' m) (hc : l.length ≤ c) (hl : nl = l.length) (hm : nm = m.length) :
    Calls Try.prog 25 #[.slice A nl c, .slice A' nm d] w fun e w' => e = .returned (.tuple #[.bool s, .int .i64 E]) ∧ Below w.heap.size w w' := by
  subst hl hm
  have := fits_any A A' l m c d w h h' hc
  rw [hs.out, hE.out] at this
  exact this
set_option maxRecDepth 100000 in
set_option maxHeartbeats 3200000 in
theorem walk_TopFirst (a0 : Option Addr) (c0 : Nat) (l0 : List Int) (a1 : Option Addr) (c1 : Nat) (l1 : List Int) (a2 : Option Addr) (c2 : Nat) (l2 : List Int) (a3 : Option Addr) (c3 : Nat) (l3 : List Int) (n : Int) (w : World)
    (h0 : Ints w a0 l0) (k0 : l0.length ≤ c0) (h1 : Ints w a1 l1) (k1 : l1.length ≤ c1) (h2 : Ints w a2 l2) (k2 : l2.length ≤ c2) (h3 : Ints w a3 l3) (k3 : l3.length ≤ c3) (_hn : (Lit.int .i64 n).wf = true) :
    Calls Try.prog 8 #[.slice a0 l0.length c0, .slice a1 l1.length c1, .slice a2 l2.length c2, .slice a3 l3.length c3, .int .i64 n] w fun e w' => e = .returned (.bool true) ∧ Below w.heap.size w w' := by
  have hb : Below w.heap.size w w := Below.refl _ _
  clear _hn
  by_cases hE : prE l0 l1 n = 0
  · obtain ⟨va, vb, r0, r1, el, hl⟩ := pr_ok hE
    have HE := Lib.hid hE
    have hle := va.le
    have hle1 := vb.le
    have HLA : Hid ((adL l0).length = l0.length + 1) := Lib.hid (length_adL _)
    have HLB : Hid ((adL l1).length = l1.length + 1) := Lib.hid (length_adL _)
    have EL := Lib.hid el
    obtain ⟨s1, hs1⟩ : ∃ s, s = (decide (chk2 (adL l0) l2 = 0) && fitB (adL l0) l2) := ⟨_, rfl⟩
    obtain ⟨s2, hs2⟩ : ∃ s, s = (decide (chk2 (adL l1) l3 = 0) && fitB (adL l1) l3) := ⟨_, rfl⟩
    obtain ⟨E1, hE1⟩ : ∃ s, s = chk2 (adL l0) l2 := ⟨_, rfl⟩
    obtain ⟨E2, hE2⟩ : ∃ s, s = chk2 (adL l1) l3 := ⟨_, rfl⟩
    have S1 : Hid (Hid ((decide (chk2 (adL l0) l2 = 0) && fitB (adL l0) l2) = s1)) := Lib.hid (Lib.hid hs1.symm)
    have S2 : Hid (Hid ((decide (chk2 (adL l1) l3 = 0) && fitB (adL l1) l3) = s2)) := Lib.hid (Lib.hid hs2.symm)
    have Q1 : Hid (Hid (chk2 (adL l0) l2 = E1)) := Lib.hid (Lib.hid hE1.symm)
    have Q2 : Hid (Hid (chk2 (adL l1) l3 = E2)) := Lib.hid (Lib.hid hE2.symm)
    have HS1 := Lib.hid hs1
    have HS2 := Lib.hid hs2
    have HE1 := Lib.hid hE1
    have HE2 := Lib.hid hE2
    obtain ⟨L, hL⟩ : ∃ L, L = lfL l2 n := ⟨_, rfl⟩
    obtain ⟨E3, hE3⟩ : ∃ L, L = lfE l2 n := ⟨_, rfl⟩
    have HL := Lib.hid hL
    have HE3 := Lib.hid hE3
    clear hE hl el hs1 hs2 hE1 hE2 hL hE3
    go_enter Try.func8, Try.ntmps8
    go_wp2_with fail
    refine (sum_yes' a0 l0 (adL l0) _ (adL l0).length c0 _ va (Lib.hid rfl) h0 rfl HLA.out).mono ?_
    rintro e w1 ⟨Af, cf, rfl, hf, kf, bw1⟩
    replace h0 := h0.below bw1
    replace h1 := h1.below bw1
    replace h2 := h2.below bw1
    replace h3 := h3.below bw1
    replace hb := below_trans hb bw1
    clear bw1
    go_wp2_with fail
    refine (sum_yes' a1 l1 (adL l1) _ (adL l1).length c1 _ vb (Lib.hid rfl) h1 rfl HLB.out).mono ?_
    rintro e w2 ⟨Ag, cg, rfl, hg, kg, bw2⟩
    replace h0 := h0.below bw2
    replace h1 := h1.below bw2
    replace h2 := h2.below bw2
    replace h3 := h3.below bw2
    replace hf := hf.below bw2
    replace hb := below_trans hb bw2
    clear bw2
    go_wp2_with fail
    refine (prun_yes a0 a1 l0 l1 (goL l0 n) (gbL l0 l1 n) _ _ l0.length c0 c1 n _ HE (Lib.hid rfl) (Lib.hid rfl) h0 h1 rfl rfl rfl).mono ?_
    rintro e w3 ⟨Ax, cx, Ay, cy, rfl, hx, hy, kx, ky, bw3⟩
    replace h2 := h2.below bw3
    replace h3 := h3.below bw3
    replace hf := hf.below bw3
    replace hg := hg.below bw3
    replace hb := below_trans hb bw3
    clear bw3
    go_wp2_with fail
    refine (begun_any _).mono ?_
    rintro e w4 ⟨rfl, bw4⟩
    replace h2 := h2.below bw4
    replace h3 := h3.below bw4
    replace hf := hf.below bw4
    replace hg := hg.below bw4
    replace hy := hy.below bw4
    replace hb := below_trans hb bw4
    clear bw4
    go_wp2_with fail
    refine (fits_gen Af a2 (adL l0) l2 _ _ _ c2 s1 E1 _ S1.out Q1.out hf h2 kf rfl rfl).mono ?_
    rintro e w5 ⟨rfl, bw5⟩
    replace h2 := h2.below bw5
    replace h3 := h3.below bw5
    replace hf := hf.below bw5
    replace hg := hg.below bw5
    replace hy := hy.below bw5
    replace hb := below_trans hb bw5
    clear bw5
    go_wp2_with fail
    refine (fits_gen Ag a3 (adL l1) l3 _ _ _ c3 s2 E2 _ S2.out Q2.out hg h3 kg rfl rfl).mono ?_
    rintro e w6 ⟨rfl, bw6⟩
    replace h2 := h2.below bw6
    replace h3 := h3.below bw6
    replace hg := hg.below bw6
    replace hy := hy.below bw6
    replace hb := below_trans hb bw6
    clear bw6
    go_wp2_with fail
    refine (left_any a2 l2 c2 n _ h2).mono ?_
    rintro e w7 ⟨Al, cl, rfl, ol, bw7⟩
    replace h3 := h3.below bw7
    replace hg := hg.below bw7
    replace hy := hy.below bw7
    replace hb := below_trans hb bw7
    have hl := Ints.of_own ol
    clear bw7 ol
    rw [← HL.out] at hl
    rw [← HL.out, ← HE3.out]
    by_cases q1 : E1 = 0
    · have p1 : chk2 (adL l0) l2 = 0 := by rw [← HE1.out]; exact q1
      obtain ⟨v0, v2, e02⟩ := chk2_iff.1 p1
      obtain rfl : E3 = 0 := by rw [HE3.out]; exact lf_of v2 r0 r1
      have hLL : L = leftL l2 n := by rw [HL.out, lfL, if_pos (lf_of v2 r0 r1)]
      clear HL
      subst hLL
      subst q1
      by_cases q2 : E2 = 0
      · have p2 : chk2 (adL l1) l3 = 0 := by rw [← HE2.out]; exact q2
        subst q2
        cases s1
        · clear p1 p2 e02
          go_wp2
          go_ret
          exact ⟨rfl, hb⟩
        · cases s2
          · clear p1 p2 e02
            go_wp2
            go_ret
            exact ⟨rfl, hb⟩
          · obtain ⟨v1, v3, e13⟩ := chk2_iff.1 p2
            have f1 : fitB (adL l0) l2 = true := by have := HS1.out; simpa [p1] using this
            have f2 : fitB (adL l1) l3 = true := by have := HS2.out; simpa [p2] using this
            have vg := tr_gb va vb r0 r1 EL.out
            have LG : Hid ((gbL l0 l1 n).length = l0.length) := Lib.hid (length_gbL _ _ _)
            have LD : Hid ((adL (gbL l0 l1 n)).length = (gbL l0 l1 n).length + 1) := Lib.hid (length_adL _)
            have hl2 : l2.length = l0.length + 1 := by rw [← e02, HLA.out]
            have hl3 : l3.length = l1.length + 1 := by rw [← e13, HLB.out]
            obtain ⟨M, hM⟩ : ∃ M, M = backV l3 (leftL l2 n) := ⟨_, rfl⟩
            obtain ⟨N, hN⟩ : ∃ N, N = backV (adL l1) (adL (gbL l0 l1 n)) := ⟨_, rfl⟩
            have hK : N ≤ M := by
              rw [hM, hN]
              exact top_first va vb r0 r1 EL.out ((fitB_iff v0 v2 e02).1 f1) ((fitB_iff v1 v3 e13).1 f2) hl2 hl3
            have HM : Hid (backV l3 (leftL l2 n) = M) := Lib.hid hM.symm
            have HN : Hid (backV (adL l1) (adL (gbL l0 l1 n)) = N) := Lib.hid hN.symm
            have Q1' : Hid (chk2 l3 (leftL l2 n) = 0) := Lib.hid (chk2_iff.2 ⟨v3, (left_is v2 r0 r1).r, by rw [hl3, length_leftL, hl2, EL.out]⟩)
            have Q2' : Hid (chk2 (adL l1) (adL (gbL l0 l1 n)) = 0) := Lib.hid (chk2_iff.2 ⟨v1, ad_cv vg, by rw [HLB.out, LD.out, LG.out, EL.out]⟩)
            clear p1 p2 e02 e13 f1 f2 hl2 hl3 hM hN
            go_wp2_with fail
            refine (sum_yes' Ay (gbL l0 l1 n) (adL (gbL l0 l1 n)) _ (adL (gbL l0 l1 n)).length _ _ vg (Lib.hid rfl) hy LG.out.symm LD.out).mono ?_
            rintro e w10 ⟨Ad, cd, rfl, hd, kd, bw10⟩
            replace h3 := h3.below bw10
            replace hg := hg.below bw10
            replace hl := hl.below bw10
            replace hb := below_trans hb bw10
            clear bw10
            go_wp2_with fail
            refine (back_lits a3 Al l3 (leftL l2 n) _ _ _ _ M _ Q1'.out HM h3 hl rfl rfl).mono ?_
            rintro e w11 ⟨rfl, bw11⟩
            replace hg := hg.below bw11
            replace hd := hd.below bw11
            replace hb := below_trans hb bw11
            clear bw11
            go_wp2_with fail
            refine (back_lits Ag Ad (adL l1) (adL (gbL l0 l1 n)) _ _ _ _ N _ Q2'.out HN hg hd rfl rfl).mono ?_
            rintro e w12 ⟨rfl, bw12⟩
            replace hb := below_trans hb bw12
            clear bw12
            go_wp2
            go_ret
            exact ⟨rfl, hb⟩
      · have e1 : (E2 != 0) = true := by simp [q2]
        clear q2 p1 e02
        go_wp2
        go_ret
        exact ⟨rfl, hb⟩
    · have e1 : (E1 != 0) = true := by simp [q1]
      clear q1
      go_wp2
      go_ret
      exact ⟨rfl, hb⟩
  · have e1 : (prE l0 l1 n != 0) = true := by simp [hE]
    obtain ⟨t0, ht0⟩ : ∃ t, t = trk l0 := ⟨_, rfl⟩
    obtain ⟨t1, ht1⟩ : ∃ t, t = trk l1 := ⟨_, rfl⟩
    have HT0 := Lib.hid ht0
    have HT1 := Lib.hid ht1
    clear ht0 ht1
    go_enter Try.func8, Try.ntmps8
    go_wp2_with fail
    refine (trSum_any a0 l0 c0 _ h0).mono ?_
    rintro e w1 ⟨Af, cf, rfl, of, bw1⟩
    replace h0 := h0.below bw1
    replace h1 := h1.below bw1
    replace hb := below_trans hb bw1
    have hf := Ints.of_own of
    clear bw1 of
    rw [← HT0.out]
    go_wp2_with fail
    refine (trSum_any a1 l1 c1 _ h1).mono ?_
    rintro e w2 ⟨Ag, cg, rfl, og, bw2⟩
    replace h0 := h0.below bw2
    replace h1 := h1.below bw2
    replace hb := below_trans hb bw2
    have hg := Ints.of_own og
    clear bw2 og
    rw [← HT1.out]
    go_wp2_with fail
    refine (prun_no a0 a1 l0 l1 c0 c1 n _ hE h0 h1).mono ?_
    rintro e w3 ⟨Ax, cx, Ay, cy, rfl, bx⟩
    replace hb := below_trans hb bx
    clear bx
    go_wp2_with fail
    refine (begun_any _).mono ?_
    rintro e w4 ⟨rfl, bw4⟩
    replace hb := below_trans hb bw4
    clear bw4
    by_cases q0 : t0 = 0
    · have d0 : (t0 != 0) = false := by simp [q0]
      by_cases q1 : t1 = 0
      · have d1 : (t1 != 0) = false := by simp [q1]
        clear q0 q1
        go_wp2_with fail
        refine (begun_any _).mono ?_
        rintro e w5 ⟨rfl, bw5⟩
        replace hb := below_trans hb bw5
        clear bw5
        go_wp2
        go_ret
        exact ⟨rfl, hb⟩
      · have d1 : (t1 != 0) = true := by simp [q1]
        clear q0 q1
        go_wp2_with fail
        refine (begun_any _).mono ?_
        rintro e w5 ⟨rfl, bw5⟩
        replace hb := below_trans hb bw5
        clear bw5
        go_wp2
        go_ret
        exact ⟨rfl, hb⟩
    · have d0 : (t0 != 0) = true := by simp [q0]
      clear q0
      go_wp2_with fail
      refine (begun_any _).mono ?_
      rintro e w5 ⟨rfl, bw5⟩
      replace hb := below_trans hb bw5
      clear bw5
      go_wp2
      go_ret
      exact ⟨rfl, hb⟩

end Go.Proofs.Ythngolnflogdnaa
