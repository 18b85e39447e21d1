
/-
  The walk of the law CatchJoins over the contracts of package catch.
-/
import Derived.Test.YtnjeelmlabefjaaCatC
import Derived.Test.YtnjeelmlabefjaaConcA
import Derived.Test.YtnjeelmlabefjaaBoundA
import Derived.Test.YtnjeelmlabefjaaLineT
namespace Go.Proofs.Ytnjeelmlabefjaa
set_option linter.all false
open Go.RowKit Go.Shelf


theorem lg_take {a b : List Int} {r g : Int} : (lgL (a ++ b) r g).take (a.length + 1) = lgL a r g := by
  apply List.ext_getElem?
  intro i
  rw [List.getElem?_take]
  by_cases h : i < a.length + 1
  · rw [if_pos h, lgL, lgL, get_tab _ (by simp; omega), get_tab _ h, lg_app i (by omega)]
  · rw [if_neg h, List.getElem?_eq_none (by rw [length_lgL]; omega)]
theorem lg_drop {a b : List Int} {r g : Int} : (lgL (a ++ b) r g).drop a.length = lgL b r (lgV a r g a.length) := by
  apply List.ext_getElem?
  intro i
  rw [List.getElem?_drop]
  by_cases h : i < b.length + 1
  · rw [lgL, lgL, get_tab _ (by simp; omega), get_tab _ h, lg_then]
  · rw [List.getElem?_eq_none (by rw [length_lgL, List.length_append]; omega), List.getElem?_eq_none (by rw [length_lgL]; omega)]
theorem two_new (w : World) (v u : Value) (t : TypeId) : Two (w.alloc (.cells #[v, u] t)) w.heap.size v u :=
  ⟨by simpa using (Blk.new w t #[v, u]).cell 0, by simpa using (Blk.new w t #[v, u]).cell 1⟩
theorem concat_at (g c d : Nat) (A B : Option Addr) (l m M : List Int) (w : World) (hM : Hid (M = l ++ m)) (t : Two w g (.slice A l.length c) (.slice B m.length d)) (h : Ints w A l) (h' : Ints w B m)
    (hA : A = none → c = 0) (hB : B = none → d = 0) (hs : (l.length + m.length) * 8 ≤ 281474976710656) :
    Calls Try.prog 33 #[.slice (some ⟨g, 0, none⟩) 2 2] w (AnsL M w) := by
  rw [hM.out]
  exact concat_any g c d A B l m w t h h' hA hB hs

set_option maxRecDepth 100000 in
set_option maxHeartbeats 3200000 in
theorem v_CatchJoins (K : CatC) (a0 : Option Addr) (c0 : Nat) (l0 : List Int) (a1 : Option Addr) (c1 : Nat) (l1 : List Int) (n1 n2 : Int) (w : World)
    (h0 : Ints w a0 l0) (_k0 : l0.length ≤ c0) (n0 : a0 = none → c0 = 0) (s0 : 8 * l0.length ≤ 140737488351232) (h1 : Ints w a1 l1) (_k1 : l1.length ≤ c1) (n1' : a1 = none → c1 = 0) (s1 : 8 * l1.length ≤ 140737488351232) (_1 : (Lit.int .i64 n1).wf = true) (_2 : (Lit.int .i64 n2).wf = true) :
    Calls Try.prog 12 #[.slice a0 l0.length c0, .slice a1 l1.length c1, .int .i64 n1, .int .i64 n2] w fun e w' => e = .returned (.bool true) ∧ Below w.heap.size w w' := by
  have hb : Below w.heap.size w w := Below.refl _ _
  have hs : (l0.length + l1.length) * 8 ≤ 281474976710656 := by omega
  have N0 := Lib.hid n0
  have N1 := Lib.hid n1'
  clear n0 n1' s0 s1 _1 _2 _k0 _k1
  obtain ⟨M, hMM⟩ : ∃ M, M = l0 ++ l1 := ⟨_, rfl⟩
  have HMM := Lib.hid hMM
  have ml : M.length = l0.length + l1.length := by rw [hMM, List.length_append]
  have HLM := Lib.hid ml
  have HLM1 : Hid (l0.length + l1.length + 1 = M.length + 1) := Lib.hid (by rw [ml])
  clear hMM ml
  by_cases hE : lgE l0 n1 n2 = 0
  · have HE := Lib.hid hE
    by_cases hM : lgE M n1 n2 = 0
    · have ok := lg_ok hM
      obtain ⟨v0, v1, hle⟩ := tr_app (a := l0) (b := l1) (by rw [← HMM.out]; exact ok.tr)
      have HM := Lib.hid hM
      have LX := Lib.hid (length_lgL l0 n1 n2)
      obtain ⟨X, hX⟩ : ∃ X, X = lgV l0 n1 n2 l0.length := ⟨_, rfl⟩
      have X0 := lg_bd (a := l0) (r := n1) (g := n2) v0 ok.g0 ok.g1 ok.r0 (Nat.le_refl _)
      rw [← hX] at X0
      have x0 := X0.1
      have x1 := X0.2
      have HOK := Lib.hid ok
      have V1 := Lib.hid v1
      clear hE hM ok v0 v1 X0
      go_enter Try.func12, Try.ntmps12
      go_wp2_with fail
      refine (K.lag_yes _ [0, 0] [5, 3, 1] _ 3 _ 2 5 _ (by exact Ints.lit _ [0, 0] _ _ rfl (by decide)) (Lib.hid (by decide)) (Lib.hid (by decide)) rfl rfl).mono ?_
      rintro e w1 ⟨Ax, cx, rfl, hx, kx, bw1⟩
      replace bw1 := below_of1 bw1
      replace h0 := h0.below bw1
      replace h1 := h1.below bw1
      replace hb := below_trans hb bw1
      clear bw1
      go_wp2_with fail
      refine (equal_at Ax _ [5, 3, 1] [5, 3, 1] _ _ _ _ _ (by exact Ints.alloc hx _) (by exact Ints.lit _ [5, 3, 1] _ _ rfl (by decide)) rfl rfl).mono ?_
      rintro e w2 ⟨rfl, nw2, hww2⟩
      have bw2 := below_of_drewN hww2
      clear hww2
      replace bw2 := below_of1 bw2
      replace h0 := h0.below bw2
      replace h1 := h1.below bw2
      replace hb := below_trans hb bw2
      clear bw2
      rw [eqB_true rfl]
      clear hx kx
      go_wp2_with fail
      refine (K.lag_yes a0 l0 (lgL l0 n1 n2) _ (l0.length + 1) c0 n1 n2 _ h0 HE (Lib.hid rfl) rfl rfl).mono ?_
      rintro e w3 ⟨Ax, cx, rfl, hx, kx, bw3⟩
      replace h0 := h0.below bw3
      replace h1 := h1.below bw3
      replace hb := below_trans hb bw3
      clear bw3
      go_wp2_with fail
      refine (concat_at _ c0 c1 a0 a1 l0 l1 M _ HMM (two_new _ _ _ _) (Ints.alloc h0 _) (Ints.alloc h1 _) N0.out N1.out hs).mono ?_
      rintro e w4 ⟨Am, cm, rfl, om, bm⟩
      replace bm := below_of1 bm
      replace h0 := h0.below bm
      replace h1 := h1.below bm
      replace hb := below_trans hb bm
      replace hx := hx.below bm
      have hm := Ints.of_own om
      clear om bm
      go_wp2_with fail
      refine (K.lag_yes Am M (lgL M n1 n2) _ (l0.length + l1.length + 1) cm n1 n2 _ hm HM (Lib.hid rfl) rfl HLM1.out).mono ?_
      rintro e w5 ⟨Ay, cy, rfl, hy, ky, bw5⟩
      replace h1 := h1.below bw5
      replace hx := hx.below bw5
      replace hb := below_trans hb bw5
      clear bw5
      obtain ⟨b1, o1, x, rfl, hc1, HX⟩ := hx.at_ (k := l0.length) (by rw [LX.out]; omega)
      have hx' := gt_of_get HX.out
      rw [gt_lgL (Nat.le_refl _), ← hX] at hx'
      subst hx'
      have i0 : (l0.length : Int) < (l0.length : Int) + 1 := by omega
      have HXV := Lib.hid hX
      clear hX
      by_cases q : 1000000 < X
      · go_wp2
        go_ret
        exact ⟨rfl, hb⟩
      · have HE3 : Hid (lgE l1 n1 X = 0) := Lib.hid (lg_of ⟨V1.out, HOK.out.r0, HOK.out.r1, by omega, by omega⟩)
        have LZ := Lib.hid (length_lgL l1 n1 X)
        obtain ⟨b2, o2, rfl, _⟩ := hy.2 (by rw [length_lgL]; omega)
        have hyt := hy.take (l0.length + 1)
        rw [HMM.out, lg_take] at hyt
        have hyd := hy.drop l0.length
        rw [HMM.out, lg_drop, ← HXV.out] at hyd
        have i1 : (l0.length : Int) + 1 ≤ (cy : Int) := by omega
        have i2 : ¬ cy = l0.length := by omega
        have i3 : (l0.length : Int) ≤ (l0.length : Int) + (l1.length : Int) + 1 := by omega
        have i4 : l0.length ≤ cy := by omega
        clear hy
        go_wp2_with fail
        refine (K.lag_yes a1 l1 (lgL l1 n1 X) _ (l1.length + 1) c1 n1 X _ h1 HE3 (Lib.hid rfl) rfl rfl).mono ?_
        rintro e w6 ⟨Az, cz, rfl, hz, kz, bw6⟩
        replace hx := hx.below bw6
        replace hyt := hyt.below bw6
        replace hyd := hyd.below bw6
        replace hb := below_trans hb bw6
        clear bw6
        go_wp2_with fail
        refine (equal_at _ _ (lgL l0 n1 n2) (lgL l0 n1 n2) _ _ _ _ _ hx hyt LX.out.symm LX.out.symm).mono ?_
        rintro e w7 ⟨rfl, nw7, hww7⟩
        have bw7 := below_of_drewN hww7
        clear hww7
        replace hz := hz.below bw7
        replace hyd := hyd.below bw7
        replace hb := below_trans hb bw7
        clear bw7
        rw [eqB_true rfl]
        go_wp2_with fail
        refine (equal_at Az _ (lgL l1 n1 X) (lgL l1 n1 X) _ _ _ _ _ hz hyd LZ.out.symm (by have := LZ.out; omega)).mono ?_
        rintro e w8 ⟨rfl, nw8, hww8⟩
        have bw8 := below_of_drewN hww8
        clear hww8
        replace hb := below_trans hb bw8
        clear bw8
        rw [eqB_true rfl]
        go_wp2
        go_ret
        exact ⟨rfl, hb⟩
    · have e1 : (lgE M n1 n2 != 0) = true := by simp [hM]
      have HM := Lib.hid hM
      clear hE hM
      go_enter Try.func12, Try.ntmps12
      go_wp2_with fail
      refine (K.lag_yes _ [0, 0] [5, 3, 1] _ 3 _ 2 5 _ (by exact Ints.lit _ [0, 0] _ _ rfl (by decide)) (Lib.hid (by decide)) (Lib.hid (by decide)) rfl rfl).mono ?_
      rintro e w1 ⟨Ax, cx, rfl, hx, kx, bw1⟩
      replace bw1 := below_of1 bw1
      replace h0 := h0.below bw1
      replace h1 := h1.below bw1
      replace hb := below_trans hb bw1
      clear bw1
      go_wp2_with fail
      refine (equal_at Ax _ [5, 3, 1] [5, 3, 1] _ _ _ _ _ (by exact Ints.alloc hx _) (by exact Ints.lit _ [5, 3, 1] _ _ rfl (by decide)) rfl rfl).mono ?_
      rintro e w2 ⟨rfl, nw2, hww2⟩
      have bw2 := below_of_drewN hww2
      clear hww2
      replace bw2 := below_of1 bw2
      replace h0 := h0.below bw2
      replace h1 := h1.below bw2
      replace hb := below_trans hb bw2
      clear bw2
      rw [eqB_true rfl]
      clear hx kx
      go_wp2_with fail
      refine (K.lag_yes a0 l0 (lgL l0 n1 n2) _ (l0.length + 1) c0 n1 n2 _ h0 HE (Lib.hid rfl) rfl rfl).mono ?_
      rintro e w3 ⟨Ax, cx, rfl, hx, kx, bw3⟩
      replace h0 := h0.below bw3
      replace h1 := h1.below bw3
      replace hb := below_trans hb bw3
      clear bw3
      go_wp2_with fail
      refine (concat_at _ c0 c1 a0 a1 l0 l1 M _ HMM (two_new _ _ _ _) (Ints.alloc h0 _) (Ints.alloc h1 _) N0.out N1.out hs).mono ?_
      rintro e w4 ⟨Am, cm, rfl, om, bm⟩
      replace bm := below_of1 bm
      replace h0 := h0.below bm
      replace h1 := h1.below bm
      replace hb := below_trans hb bm
      replace hx := hx.below bm
      have hm := Ints.of_own om
      clear om bm
      go_wp2_with fail
      refine (K.lag_no Am M _ cm n1 n2 _ hm HM rfl).mono ?_
      rintro e w5 ⟨⟨Ay, cy, rfl⟩, b5⟩
      replace hb := below_trans hb b5
      clear b5
      go_wp2
      go_ret
      exact ⟨rfl, hb⟩
  · have e1 : (lgE l0 n1 n2 != 0) = true := by simp [hE]
    have HE := Lib.hid hE
    clear hE
    go_enter Try.func12, Try.ntmps12
    go_wp2_with fail
    refine (K.lag_yes _ [0, 0] [5, 3, 1] _ 3 _ 2 5 _ (by exact Ints.lit _ [0, 0] _ _ rfl (by decide)) (Lib.hid (by decide)) (Lib.hid (by decide)) rfl rfl).mono ?_
    rintro e w1 ⟨Ax, cx, rfl, hx, kx, bw1⟩
    replace bw1 := below_of1 bw1
    replace h0 := h0.below bw1
    replace h1 := h1.below bw1
    replace hb := below_trans hb bw1
    clear bw1
    go_wp2_with fail
    refine (equal_at Ax _ [5, 3, 1] [5, 3, 1] _ _ _ _ _ (by exact Ints.alloc hx _) (by exact Ints.lit _ [5, 3, 1] _ _ rfl (by decide)) rfl rfl).mono ?_
    rintro e w2 ⟨rfl, nw2, hww2⟩
    have bw2 := below_of_drewN hww2
    clear hww2
    replace bw2 := below_of1 bw2
    replace h0 := h0.below bw2
    replace h1 := h1.below bw2
    replace hb := below_trans hb bw2
    clear bw2
    rw [eqB_true rfl]
    clear hx kx
    go_wp2_with fail
    refine (K.lag_no a0 l0 _ c0 n1 n2 _ h0 HE rfl).mono ?_
    rintro e w3 ⟨⟨B, d, rfl⟩, b3⟩
    replace hb := below_trans hb b3
    clear b3
    go_wp2
    go_ret
    exact ⟨rfl, hb⟩

end Go.Proofs.Ytnjeelmlabefjaa
