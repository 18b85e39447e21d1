
/-
  The walk of the law PrioSays.
-/
import Derived.Test.YthngolnflogdnaaPrioA
import Derived.Test.YthngolnflogdnaaPrioR
namespace Go.Proofs.Ythngolnflogdnaa
set_option linter.all false
open Go.RowKit Go.Shelf


abbrev fAdd : FuncId := 14
abbrev fSub : FuncId := 16
set_option maxHeartbeats 400000 in
theorem radd_any (x y : Int) (w : World) (x0 : 0 ≤ x) (x1 : x ≤ 10000) (y0 : 0 ≤ y) (y1 : y ≤ 10000) :
    Calls Try.prog fAdd #[.int .i64 x, .int .i64 y] w fun e w' => e = .returned (.int .i64 (x + y)) ∧ w = w' := by
  go_enter Try.func14, Try.ntmps14
  go_wp2
  go_ret
  exact ⟨rfl, rfl⟩
set_option maxHeartbeats 400000 in
theorem rsub_any (x y : Int) (w : World) (x0 : 0 ≤ x) (x1 : x ≤ 10000) (y0 : 0 ≤ y) (y1 : y ≤ 10000) :
    Calls Try.prog fSub #[.int .i64 x, .int .i64 y] w fun e w' => e = .returned (.int .i64 (x - y)) ∧ w = w' := by
  go_enter Try.func16, Try.ntmps16
  go_wp2
  go_ret
  exact ⟨rfl, rfl⟩
theorem zip_add (A B : Option Addr) (a b : List Int) (c d : Nat) (w : World) (h : Ints w A a) (h' : Ints w B b) (va : Tr a) (vb : Tr b) (e : a.length = b.length) :
    Calls Try.prog 13 #[.slice A a.length c, .slice B b.length d, .func (.func fAdd) #[] #[]] w (AnsL (plL a b) w) :=
  zip_any fAdd A B a b c d _ w h h' (by have := va.le; omega) (by omega) (enters_of Try.func14 (by kernel_rfl) rfl) (fun t w ht => radd_any _ _ w (va.lo t ht) (va.hi t ht) (vb.lo t (by omega)) (vb.hi t (by omega)))
theorem go_tw {a : List Int} {r : Int} (v : Tw a) (r0 : 0 ≤ r) {t : Nat} (h : t < a.length) : 0 ≤ goV a r t ∧ goV a r t ≤ r := by
  have := wa_lo a r t; have := v.lo t h
  rw [go_min]; omega
theorem zip_sub (A B : Option Addr) (a b : List Int) (r : Int) (n m c d : Nat) (w : World) (h : Ints w A (goL (plL a b) r)) (h' : Ints w B (goL a r)) (va : Tr a) (vb : Tr b) (r0 : 0 ≤ r) (r1 : r ≤ 10000) (e : a.length = b.length) (hn : n = (goL (plL a b) r).length) (hm : m = (goL a r).length) :
    Calls Try.prog 13 #[.slice A n c, .slice B m d, .func (.func fSub) #[] #[]] w (AnsL (gbL a b r) w) := by
  subst hn hm
  have hl : (goL (plL a b) r).length = a.length := by rw [length_goL, length_plL]
  have q := zip_any fSub A B (goL (plL a b) r) (goL a r) c d (fun t => gt (goL (plL a b) r) t - gt (goL a r) t) w h h' (by have := va.le; omega) (by rw [hl, length_goL]; exact Nat.le_refl _) (enters_of Try.func16 (by kernel_rfl) rfl) (fun t w ht => by
    rw [hl] at ht
    have b1 := go_tw (pl_tw va vb e) r0 (r := r) (t := t) (by rw [length_plL]; exact ht)
    have b2 := go_bd va r0 ht
    rw [gt_goL ht, gt_goL (by rw [length_plL]; exact ht)]
    exact rsub_any _ _ w (by omega) (by omega) (by omega) (by omega))
  have e' : tab (goL (plL a b) r).length (fun t => gt (goL (plL a b) r) t - gt (goL a r) t) = gbL a b r := by
    refine (eq_tab (by rw [length_gbL, hl]) (fun i hi => ?_)).symm
    rw [hl] at hi
    rw [gt_gbL hi, gb_both (fun t ht => vb.lo t (by omega)) hi, gt_goL hi, gt_goL (by rw [length_plL]; exact hi)]
  rw [e'] at q
  exact q

set_option maxRecDepth 100000 in
set_option maxHeartbeats 3200000 in
theorem walk_PrioSays (a0 : Option Addr) (c0 : Nat) (l0 : List Int) (a1 : Option Addr) (c1 : Nat) (l1 : List Int) (n : Int) (w : World)
    (h0 : Ints w a0 l0) (k0 : l0.length ≤ c0) (h1 : Ints w a1 l1) (k1 : l1.length ≤ c1) (_hn : (Lit.int .i64 n).wf = true) :
    Calls Try.prog 3 #[.slice a0 l0.length c0, .slice a1 l1.length c1, .int .i64 n] w fun e w' => e = .returned (.bool true) ∧ Below w.heap.size w w' := by
  have hb : Below w.heap.size w w := Below.refl _ _
  clear _hn
  by_cases hE : prE l0 l1 n = 0
  · obtain ⟨va, vb, r0, r1, el, hl⟩ := pr_ok hE
    have HE := Lib.hid hE
    have HL := Lib.hid hl
    have HT : Hid (trk l1 = 0) := Lib.hid (trk_iff.2 vb)
    have EL := Lib.hid el
    have e3 : ((l0.length : Int) != (l1.length : Int)) = false := by rw [el]; simp
    have hle := va.le
    have vp := pl_tw va vb el
    have HLG : Hid ((goL l0 n).length = l0.length) := Lib.hid (length_goL l0 n)
    have HLB : Hid ((gbL l0 l1 n).length = l0.length) := Lib.hid (length_gbL l0 l1 n)
    clear hE hl el
    go_enter Try.func3, Try.ntmps3
    go_wp2_with fail
    refine (prun_yes a0 a1 l0 l1 (goL l0 n) (gbL l0 l1 n) _ _ l0.length c0 c1 n _ HE (Lib.hid rfl) (Lib.hid rfl) h0 h1 rfl rfl rfl).mono ?_
    rintro e w1 ⟨Ax, cx, Ay, cy, rfl, hx, hy, kx, ky, bw1⟩
    replace h0 := h0.below bw1
    replace h1 := h1.below bw1
    replace hb := below_trans hb bw1
    clear bw1
    go_wp2_with fail
    refine (rated_any a0 l0 c0 n _ h0).mono ?_
    rintro e w' ⟨rfl, rfl⟩
    rw [HL.out]
    go_wp2_with fail
    refine (refTrace_any a1 l1 c1 _ h1).mono ?_
    rintro e w' ⟨rfl, rfl⟩
    rw [HT.out]
    go_wp2_with fail
    refine (refGoes_any a0 l0 c0 n _ h0 va r0 r1).mono ?_
    rintro e w2 ⟨Af, cf, rfl, of, bw2⟩
    replace h0 := h0.below bw2
    replace h1 := h1.below bw2
    replace hx := hx.below bw2
    replace hy := hy.below bw2
    replace hb := below_trans hb bw2
    have hf := Ints.of_own of
    clear bw2 of
    go_wp2_with fail
    refine (zip_add a0 a1 l0 l1 c0 c1 _ h0 h1 va vb EL.out).mono ?_
    rintro e w3 ⟨Ap, cp, rfl, op, bw3⟩
    replace hx := hx.below bw3
    replace hy := hy.below bw3
    replace hf := hf.below bw3
    replace hb := below_trans hb bw3
    have hp := Ints.of_own op
    clear bw3 op
    go_wp2_with fail
    refine (refGoes_tw Ap (plL l0 l1) cp n _ hp vp r0 r1).mono ?_
    rintro e w4 ⟨Aq, cq, rfl, oq, bw4⟩
    replace hx := hx.below bw4
    replace hy := hy.below bw4
    replace hf := hf.below bw4
    replace hb := below_trans hb bw4
    have hq := Ints.of_own oq
    clear bw4 oq
    go_wp2_with fail
    refine (equal_at Ax Af (goL l0 n) (goL l0 n) _ _ _ _ _ hx hf HLG.out.symm rfl).mono ?_
    rintro e w5 ⟨rfl, nw5, hww5⟩
    have bw5 := below_of_drewN hww5
    clear hww5
    replace hy := hy.below bw5
    replace hf := hf.below bw5
    replace hq := hq.below bw5
    replace hb := below_trans hb bw5
    clear bw5
    rw [eqB_true rfl]
    go_wp2_with fail
    refine (zip_sub Aq Af l0 l1 n _ _ cq cf _ hq hf va vb r0 r1 EL.out rfl rfl).mono ?_
    rintro e w6 ⟨Az, cz, rfl, oz, bw6⟩
    replace hy := hy.below bw6
    replace hb := below_trans hb bw6
    have hz := Ints.of_own oz
    clear bw6 oz
    go_wp2_with fail
    refine (equal_at Ay Az (gbL l0 l1 n) (gbL l0 l1 n) _ _ _ _ _ hy hz HLB.out.symm rfl).mono ?_
    rintro e w7 ⟨rfl, nw7, hww7⟩
    have bw7 := below_of_drewN hww7
    clear hww7
    replace hb := below_trans hb bw7
    clear bw7
    rw [eqB_true rfl]
    go_wp2
    go_ret
    exact ⟨rfl, hb⟩
  · by_cases h2 : linE l0 n = 0
    · by_cases h3 : trk l1 = 0
      · have h4 : ¬ l0.length = l1.length := fun q => hE (by rw [prE, if_neg (by simpa using h2), if_neg (by simpa using h3), if_pos q])
        have HE : Hid (prE l0 l1 n = 4) := Lib.hid (by rw [prE, if_neg (by simpa using h2), if_neg (by simpa using h3), if_neg h4])
        have e4 : ((l0.length : Int) != (l1.length : Int)) = true := by rw [bne_iff_ne]; omega
        have HL := Lib.hid h2
        have HT := Lib.hid h3
        clear h2 h3 h4
        go_enter Try.func3, Try.ntmps3
        go_wp2_with fail
        refine (prun_no a0 a1 l0 l1 c0 c1 n _ hE h0 h1).mono ?_
        rintro e w1 ⟨Ax, cx, Ay, cy, rfl, bx⟩
        replace h0 := h0.below bx
        replace h1 := h1.below bx
        replace hb := below_trans hb bx
        clear bx
        go_wp2_with fail
        refine (rated_any a0 l0 c0 n _ h0).mono ?_
        rintro e w' ⟨rfl, rfl⟩
        rw [HL.out]
        go_wp2_with fail
        refine (refTrace_any a1 l1 c1 _ h1).mono ?_
        rintro e w' ⟨rfl, rfl⟩
        rw [HT.out, HE.out]
        go_wp2
        go_ret
        exact ⟨rfl, hb⟩
      · have HE : Hid (prE l0 l1 n = trk l1) := Lib.hid (by rw [prE, if_neg (by simpa using h2), if_pos h3])
        have e4 : (trk l1 != 0) = true := by simp [h3]
        have e5 : (trk l1 == 0) = false := by simp [h3]
        have e6 : (trk l1 == trk l1) = true := by simp
        have HL := Lib.hid h2
        clear h2 h3
        go_enter Try.func3, Try.ntmps3
        go_wp2_with fail
        refine (prun_no a0 a1 l0 l1 c0 c1 n _ hE h0 h1).mono ?_
        rintro e w1 ⟨Ax, cx, Ay, cy, rfl, bx⟩
        replace h0 := h0.below bx
        replace h1 := h1.below bx
        replace hb := below_trans hb bx
        clear bx
        go_wp2_with fail
        refine (rated_any a0 l0 c0 n _ h0).mono ?_
        rintro e w' ⟨rfl, rfl⟩
        rw [HL.out]
        go_wp2_with fail
        refine (refTrace_any a1 l1 c1 _ h1).mono ?_
        rintro e w' ⟨rfl, rfl⟩
        rw [HE.out]
        go_wp2
        go_ret
        exact ⟨rfl, hb⟩
    · have HE : Hid (prE l0 l1 n = linE l0 n) := Lib.hid (by rw [prE, if_pos h2])
      have e4 : (linE l0 n != 0) = true := by simp [h2]
      have e5 : (linE l0 n == 0) = false := by simp [h2]
      have e6 : (linE l0 n == linE l0 n) = true := by simp
      clear h2
      go_enter Try.func3, Try.ntmps3
      go_wp2_with fail
      refine (prun_no a0 a1 l0 l1 c0 c1 n _ hE h0 h1).mono ?_
      rintro e w1 ⟨Ax, cx, Ay, cy, rfl, bx⟩
      replace h0 := h0.below bx
      replace h1 := h1.below bx
      replace hb := below_trans hb bx
      clear bx
      go_wp2_with fail
      refine (rated_any a0 l0 c0 n _ h0).mono ?_
      rintro e w' ⟨rfl, rfl⟩
      rw [HE.out]
      go_wp2
      go_ret
      exact ⟨rfl, hb⟩

end Go.Proofs.Ythngolnflogdnaa
