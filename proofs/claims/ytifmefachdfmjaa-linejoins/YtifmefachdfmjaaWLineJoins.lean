
/-
  The walk of the law LineJoins.
-/
import Derived.Test.YtifmefachdfmjaaLineK
import Derived.Test.YtifmefachdfmjaaLineT
import Derived.Test.YtifmefachdfmjaaConcA
import Derived.Test.YtifmefachdfmjaaBoundA
namespace Go.Proofs.Ytifmefachdfmjaa
set_option linter.all false
open Go.RowKit Go.Shelf


theorem two_new (w : World) (v u : Value) (t : TypeId) : Two (w.alloc (.cells #[v, u] t)) w.heap.size v u :=
  ⟨by simpa using (Blk.new w t #[v, u]).cell 0, by simpa using (Blk.new w t #[v, u]).cell 1⟩

theorem concat_at (g c d : Nat) (A B : Option Addr) (l m M : List Int) (w : World) (hM : Hid (M = l ++ m)) (t : Two w g (.slice A l.length c) (.slice B m.length d)) (h : Ints w A l) (h' : Ints w B m)
    (hA : A = none → c = 0) (hB : B = none → d = 0) (hs : (l.length + m.length) * 8 ≤ 281474976710656) :
    Calls Try.prog 27 #[.slice (some ⟨g, 0, none⟩) 2 2] w (AnsL M w) := by
  rw [hM.out]
  exact concat_any g c d A B l m w t h h' hA hB hs

set_option maxRecDepth 100000 in
set_option maxHeartbeats 3200000 in
theorem walk_LineJoins (a0 : Option Addr) (c0 : Nat) (l0 : List Int) (a1 : Option Addr) (c1 : Nat) (l1 : List Int) (n : Int) (w : World)
    (h0 : Ints w a0 l0) (k0 : l0.length ≤ c0) (n0 : a0 = none → c0 = 0) (s0 : 8 * l0.length ≤ 140737488351232) (h1 : Ints w a1 l1) (k1 : l1.length ≤ c1) (n1 : a1 = none → c1 = 0) (s1 : 8 * l1.length ≤ 140737488351232) (_hn : (Lit.int .i64 n).wf = true) :
    Calls Try.prog 10 #[.slice a0 l0.length c0, .slice a1 l1.length c1, .int .i64 n] w fun e w' => e = .returned (.bool true) ∧ Below w.heap.size w w' := by
  have hb : Below w.heap.size w w := Below.refl _ _
  have hs : (l0.length + l1.length) * 8 ≤ 281474976710656 := by omega
  have N0 := Lib.hid n0
  have N1 := Lib.hid n1
  clear n0 n1 s0 s1 _hn
  obtain ⟨M, hMM⟩ : ∃ M, M = l0 ++ l1 := ⟨_, rfl⟩
  have HMM := Lib.hid hMM
  have ml : M.length = l0.length + l1.length := by rw [hMM, List.length_append]
  have HLM := Lib.hid ml
  clear hMM ml
  by_cases hE : linE l0 n = 0
  · have HE := Lib.hid hE
    by_cases hM : linE M n = 0
    · obtain ⟨vm, r0, r1⟩ := lin_ok hM
      obtain ⟨v0, v1, hle⟩ := tr_app (a := l0) (b := l1) (by rw [← HMM.out]; exact vm)
      have HM := Lib.hid hM
      clear hE hM
      rcases Nat.eq_zero_or_pos (l0.length + l1.length) with hz | hpos
      · have Z0 : Hid (l0.length = 0) := Lib.hid (by omega)
        have e0 : ((l0.length : Int) == 0) = true := by rw [Z0.out]; rfl
        clear hz
        go_enter Try.func10, Try.ntmps10
        go_wp2_with fail
        refine (lrun_yes _ [4, 0] [1, 1] [3, 2] _ 2 _ 1 _ (Lib.hid (by decide)) (Lib.hid (by decide)) (Lib.hid (by decide)) (by exact Ints.lit _ [4, 0] _ _ rfl (by decide)) rfl rfl).mono ?_
        rintro e w1 ⟨Ax, cx, Ay, cy, rfl, hx, hy, kx, ky, bw1⟩
        replace bw1 := below_of1 bw1
        replace h0 := h0.below bw1
        replace h1 := h1.below bw1
        replace hb := below_trans hb bw1
        clear bw1
        go_wp2_with fail
        refine (equal_at Ay _ [3, 2] [3, 2] _ _ _ _ _ (by exact Ints.alloc hy _) (by exact Ints.lit _ [3, 2] _ _ rfl (by decide)) rfl rfl).mono ?_
        rintro e w2 ⟨rfl, nw2, hww2⟩
        have bw2 := below_of_drewN hww2
        clear hww2
        replace bw2 := below_of1 bw2
        replace h0 := h0.below bw2
        replace h1 := h1.below bw2
        replace hb := below_trans hb bw2
        clear bw2
        rw [eqB_true rfl]
        clear hx hy kx ky
        go_wp2_with fail
        refine (lrun_yes a0 l0 (goL l0 n) (waL l0 n) _ l0.length c0 n _ HE (Lib.hid rfl) (Lib.hid rfl) h0 rfl rfl).mono ?_
        rintro e w3 ⟨Ax, cx, Ap, cp, rfl, hx, hp, kx, kp, bw3⟩
        replace h0 := h0.below bw3
        replace h1 := h1.below bw3
        replace hb := below_trans hb bw3
        clear bw3
        go_wp2_with fail
        refine (concat_at _ c0 c1 a0 a1 l0 l1 M _ HMM (two_new _ _ _ _) (Ints.alloc h0 _) (Ints.alloc h1 _) N0.out N1.out hs).mono ?_
        rintro e w4 ⟨Am, cm, rfl, om, bm⟩
        replace bm := below_of1 bm
        replace h0 := h0.below bm
        replace h1 := h1.below bm
        replace hb := below_trans hb bm
        have hm := Ints.of_own om
        clear om
        replace hx := hx.below bm
        replace hp := hp.below bm
        clear bm
        go_wp2_with fail
        refine (lrun_yes Am M (goL M n) (waL M n) _ (l0.length + l1.length) _ n _ HM (Lib.hid rfl) (Lib.hid rfl) hm rfl HLM.out.symm).mono ?_
        rintro e w5 ⟨Ay, cy, Aq, cq, rfl, hy, hq, ky, kq, bw5⟩
        replace h0 := h0.below bw5
        replace h1 := h1.below bw5
        replace hx := hx.below bw5
        replace hp := hp.below bw5
        replace hb := below_trans hb bw5
        clear bw5
        have hyt := hy.take l0.length
        have hqt := hq.take l0.length
        rw [HMM.out, go_take] at hyt
        rw [HMM.out, wa_take] at hqt
        have LG := Lib.hid (length_goL l0 n)
        have LW := Lib.hid (length_waL l0 n)
        have i1 : (l0.length : Int) ≤ (cy : Int) := by omega
        have i2 : (l0.length : Int) ≤ (cq : Int) := by omega
        clear hy hq
        cases Ay <;> cases Aq
        all_goals
          go_wp2_with fail
          refine (equal_at Ax _ (goL l0 n) (goL l0 n) _ _ _ _ _ hx hyt LG.out.symm LG.out.symm).mono ?_
          rintro e w6 ⟨rfl, nw6, hww6⟩
          have bw6 := below_of_drewN hww6
          clear hww6
          replace h0 := h0.below bw6
          replace h1 := h1.below bw6
          replace hp := hp.below bw6
          replace hqt := hqt.below bw6
          replace hb := below_trans hb bw6
          clear bw6
          rw [eqB_true rfl]
          go_wp2_with fail
          refine (equal_at Ap _ (waL l0 n) (waL l0 n) _ _ _ _ _ hp hqt LW.out.symm LW.out.symm).mono ?_
          rintro e w7 ⟨rfl, nw7, hww7⟩
          have bw7 := below_of_drewN hww7
          clear hww7
          replace h0 := h0.below bw7
          replace h1 := h1.below bw7
          replace hp := hp.below bw7
          replace hb := below_trans hb bw7
          clear bw7
          rw [eqB_true rfl]
          go_wp2
          go_ret
          exact ⟨rfl, hb⟩
      · go_enter Try.func10, Try.ntmps10
        go_wp2_with fail
        refine (lrun_yes _ [4, 0] [1, 1] [3, 2] _ 2 _ 1 _ (Lib.hid (by decide)) (Lib.hid (by decide)) (Lib.hid (by decide)) (by exact Ints.lit _ [4, 0] _ _ rfl (by decide)) rfl rfl).mono ?_
        rintro e w1 ⟨Ax, cx, Ay, cy, rfl, hx, hy, kx, ky, bw1⟩
        replace bw1 := below_of1 bw1
        replace h0 := h0.below bw1
        replace h1 := h1.below bw1
        replace hb := below_trans hb bw1
        clear bw1
        go_wp2_with fail
        refine (equal_at Ay _ [3, 2] [3, 2] _ _ _ _ _ (by exact Ints.alloc hy _) (by exact Ints.lit _ [3, 2] _ _ rfl (by decide)) rfl rfl).mono ?_
        rintro e w2 ⟨rfl, nw2, hww2⟩
        have bw2 := below_of_drewN hww2
        clear hww2
        replace bw2 := below_of1 bw2
        replace h0 := h0.below bw2
        replace h1 := h1.below bw2
        replace hb := below_trans hb bw2
        clear bw2
        rw [eqB_true rfl]
        clear hx hy kx ky
        go_wp2_with fail
        refine (lrun_yes a0 l0 (goL l0 n) (waL l0 n) _ l0.length c0 n _ HE (Lib.hid rfl) (Lib.hid rfl) h0 rfl rfl).mono ?_
        rintro e w3 ⟨Ax, cx, Ap, cp, rfl, hx, hp, kx, kp, bw3⟩
        replace h0 := h0.below bw3
        replace h1 := h1.below bw3
        replace hb := below_trans hb bw3
        clear bw3
        go_wp2_with fail
        refine (concat_at _ c0 c1 a0 a1 l0 l1 M _ HMM (two_new _ _ _ _) (Ints.alloc h0 _) (Ints.alloc h1 _) N0.out N1.out hs).mono ?_
        rintro e w4 ⟨Am, cm, rfl, om, bm⟩
        replace bm := below_of1 bm
        replace h0 := h0.below bm
        replace h1 := h1.below bm
        replace hb := below_trans hb bm
        have hm := Ints.of_own om
        clear om
        replace hx := hx.below bm
        replace hp := hp.below bm
        clear bm
        go_wp2_with fail
        refine (lrun_yes Am M (goL M n) (waL M n) _ (l0.length + l1.length) _ n _ HM (Lib.hid rfl) (Lib.hid rfl) hm rfl HLM.out.symm).mono ?_
        rintro e w5 ⟨Ay, cy, Aq, cq, rfl, hy, hq, ky, kq, bw5⟩
        replace h0 := h0.below bw5
        replace h1 := h1.below bw5
        replace hx := hx.below bw5
        replace hp := hp.below bw5
        replace hb := below_trans hb bw5
        clear bw5
        obtain ⟨by1, oy1, rfl, _⟩ := hy.2 (by rw [length_goL, HLM.out]; exact hpos)
        obtain ⟨bq1, oq1, rfl, _⟩ := hq.2 (by rw [length_waL, HLM.out]; exact hpos)
        have hyt := hy.take l0.length
        have hqt := hq.take l0.length
        rw [HMM.out, go_take] at hyt
        rw [HMM.out, wa_take] at hqt
        have LG := Lib.hid (length_goL l0 n)
        have LW := Lib.hid (length_waL l0 n)
        have i1 : (l0.length : Int) ≤ (cy : Int) := by omega
        have i2 : (l0.length : Int) ≤ (cq : Int) := by omega
        go_wp2_with fail
        refine (equal_at Ax _ (goL l0 n) (goL l0 n) _ _ _ _ _ hx hyt LG.out.symm LG.out.symm).mono ?_
        rintro e w6 ⟨rfl, nw6, hww6⟩
        have bw6 := below_of_drewN hww6
        clear hww6
        replace h0 := h0.below bw6
        replace h1 := h1.below bw6
        replace hp := hp.below bw6
        replace hy := hy.below bw6
        replace hq := hq.below bw6
        replace hqt := hqt.below bw6
        replace hb := below_trans hb bw6
        clear bw6
        rw [eqB_true rfl]
        go_wp2_with fail
        refine (equal_at Ap _ (waL l0 n) (waL l0 n) _ _ _ _ _ hp hqt LW.out.symm LW.out.symm).mono ?_
        rintro e w7 ⟨rfl, nw7, hww7⟩
        have bw7 := below_of_drewN hww7
        clear hww7
        replace h0 := h0.below bw7
        replace h1 := h1.below bw7
        replace hp := hp.below bw7
        replace hy := hy.below bw7
        replace hq := hq.below bw7
        replace hb := below_trans hb bw7
        clear bw7
        rw [eqB_true rfl]
        clear hx hyt hqt
        by_cases z0 : l0.length = 0
        · have e0 : ((l0.length : Int) == 0) = true := by simp [z0]
          have Z0 := Lib.hid z0
          clear z0
          go_wp2
          go_ret
          exact ⟨rfl, hb⟩
        have e0 : ((l0.length : Int) == 0) = false := by rw [beq_eq_false_iff_ne]; omega
        by_cases z1 : l1.length = 0
        · have e1 : ((l1.length : Int) == 0) = true := by simp [z1]
          have Z1 := Lib.hid z1
          clear z1 z0
          go_wp2
          go_ret
          exact ⟨rfl, hb⟩
        have e1 : ((l1.length : Int) == 0) = false := by rw [beq_eq_false_iff_ne]; omega
        have p1 : 0 < l1.length := by omega
        obtain ⟨K, hK⟩ : ∃ K, K = l0.length - 1 := ⟨_, rfl⟩
        have i3 : (l0.length : Int) - 1 = (K : Int) := by omega
        have i4 : (K : Int) < (l0.length : Int) := by omega
        have HK : Hid (K + 1 = l0.length) := Lib.hid (by omega)
        clear hK z0 z1
        go_wp2_with fail
        refine (clone_all a1 l1 c1 _ h1 (by omega)).mono ?_
        rintro e w8 ⟨Ar, cr, rfl, own, b8⟩
        obtain ⟨g, cap, hv, hg, hgl⟩ := own.form p1
        obtain ⟨rfl, rfl⟩ : Ar = some ⟨g, 0, none⟩ ∧ cr = cap := by injection hv with a b c; exact ⟨a, c⟩
        replace hp := hp.below b8
        have hg' : w.heap.size ≤ g := Nat.le_trans hb.size hg
        replace hb := below_trans hb b8
        obtain ⟨b2, o2, P, e2, hc2, HP⟩ := hp.at_ (k := K) (by rw [length_waL, ← HK.out]; omega)
        subst e2
        have hP := gt_of_get HP.out
        rw [gt_waL (by rw [← HK.out]; omega), HK.out] at hP
        have P0 : 0 ≤ P ∧ P ≤ 600000 := by rw [← hP]; exact wa_bd v0 r0 (Nat.le_refl _)
        obtain ⟨pa, pb⟩ := P0
        obtain ⟨x, hx⟩ : ∃ x, x = gt l1 0 := ⟨_, rfl⟩
        have x0 : 0 ≤ x := by rw [hx]; exact v1.lo 0 p1
        have x1 : x ≤ 10000 := by rw [hx]; exact v1.hi 0 p1
        have hc0 : w8.cell? ⟨g, 0, none⟩ = some (.int .i64 x) := by
          rw [own.cellAt 0 (by omega), List.getElem?_map, get_of_lt p1, hx]; rfl
        have hf0 := own.frozenAt 0
        obtain ⟨R, hR⟩ : ∃ R, R = resL' l0 l1 n := ⟨_, rfl⟩
        have RL : Hid (R.length = l1.length) := Lib.hid (by rw [hR]; exact List.length_set)
        have LRG : Hid ((goL R n).length = l1.length) := Lib.hid (by rw [length_goL, RL.out])
        have LRW : Hid ((waL R n).length = l1.length) := Lib.hid (by rw [length_waL, RL.out])
        have HO2 : Hid (Ints ((w8.setCell ⟨g, 0, none⟩ (.int .i64 (x + P))).drew) (some ⟨g, 0, none⟩) R) := Lib.hid (by
          have q := (own.stored 0 (.int .i64 (x + P))).1
          rw [show (l1.map (Value.int .i64)).set 0 (.int .i64 (x + P)) = R.map (Value.int .i64) by rw [hR, resL', List.map_set, hx, hP]] at q
          have q' : (w8.setCell ⟨g, 0, none⟩ (.int .i64 (x + P))).ownsRow w7.heap.size 3 1 (.slice (some ⟨g, 0, none⟩) R.length cr) R.length (R.map (Value.int .i64)) := by rw [RL.out]; exact q
          exact Ints.of_own q')
        have HVR : Hid (x + P ≤ 10000 → linE R n = 0) := Lib.hid (fun hq => by
          refine lin_of ⟨by rw [RL.out]; omega, fun i hi => ?_, fun i hi => ?_⟩ r0 r1
          · rw [RL.out] at hi
            by_cases c : i = 0
            · subst c; rw [hR, rest_zero p1, ← hx, hP]; omega
            · rw [hR, rest_succ i (by omega)]; exact v1.lo i hi
          · rw [RL.out] at hi
            by_cases c : i = 0
            · subst c; rw [hR, rest_zero p1, ← hx, hP]; exact hq
            · rw [hR, rest_succ i (by omega)]; exact v1.hi i hi)
        have S0 : ∀ u, (w8.setCell ⟨g, 0, none⟩ u).cell? ⟨g, 0, none⟩ = some u := fun u => by
          rw [(own.stored 0 u).1.cellAt 0 (by omega)]
          simp [p1]
        have hyd := (hy.drop l0.length)
        have hqd := (hq.drop l0.length)
        rw [HMM.out, go_drop p1, ← hR] at hyd
        rw [HMM.out, wa_drop p1, ← hR] at hqd
        have far : ∀ {A : Option Addr} {L : List Int}, Ints w7 A L → Ints ((w8.setCell ⟨g, 0, none⟩ (.int .i64 (x + P))).drew) A L := fun {A} {L} hL => by
          have q : Below w7.heap.size w7 (w8.setCell ⟨g, 0, none⟩ (.int .i64 (x + P))) := b8.setCell (p := ⟨g, 0, none⟩) hg _
          exact hL.below q.drew
        replace hyd := far hyd
        replace hqd := far hqd
        replace hb : Below w.heap.size w ((w8.setCell ⟨g, 0, none⟩ (.int .i64 (x + P))).drew) := (hb.setCell (p := ⟨g, 0, none⟩) hg' _).drew
        have s1 : IntKind.i64.wrap (x + P) = x + P := IntWalk.i64_in _ ⟨by omega, by omega⟩
        have i5 : ¬ cy = l0.length := by omega
        have i6 : ¬ cq = l0.length := by omega
        have i7 : (0 : Int) < (l1.length : Int) := by omega
        have i8 : (l0.length : Int) ≤ (l0.length : Int) + (l1.length : Int) := by omega
        clear far hR hx hP hv own hy hq hp b8
        by_cases hq10 : 10000 < x + P
        · go_wp2
          go_region
          go_wp2
          go_ret
          exact ⟨rfl, hb⟩
        · have HE3 : Hid (linE R n = 0) := Lib.hid (HVR.out (by omega))
          go_wp2
          go_region
          go_wp2_with fail
          refine (lrun_yes _ R (goL R n) (waL R n) _ l1.length _ n _ HE3 (Lib.hid rfl) (Lib.hid rfl) HO2.out RL.out.symm RL.out.symm).mono ?_
          rintro e w9 ⟨Az, cz, Au, cu, rfl, hz, hu, kz, ku, bw9⟩
          replace hyd := hyd.below bw9
          replace hqd := hqd.below bw9
          replace hb := below_trans hb bw9
          clear bw9
          go_wp2_with fail
          refine (equal_at Az _ (goL R n) (goL R n) _ _ _ _ _ hz hyd LRG.out.symm (by have := LRG.out; omega)).mono ?_
          rintro e w10 ⟨rfl, nw10, hww10⟩
          have bw10 := below_of_drewN hww10
          clear hww10
          replace hu := hu.below bw10
          replace hqd := hqd.below bw10
          replace hb := below_trans hb bw10
          clear bw10
          rw [eqB_true rfl]
          go_wp2_with fail
          refine (equal_at Au _ (waL R n) (waL R n) _ _ _ _ _ hu hqd LRW.out.symm (by have := LRW.out; omega)).mono ?_
          rintro e w11 ⟨rfl, nw11, hww11⟩
          have bw11 := below_of_drewN hww11
          clear hww11
          replace hb := below_trans hb bw11
          clear bw11
          rw [eqB_true rfl]
          go_wp2
          go_ret
          exact ⟨rfl, hb⟩
    · have e1 : (linE M n != 0) = true := by simp [hM]
      clear hE
      go_enter Try.func10, Try.ntmps10
      go_wp2_with fail
      refine (lrun_yes _ [4, 0] [1, 1] [3, 2] _ 2 _ 1 _ (Lib.hid (by decide)) (Lib.hid (by decide)) (Lib.hid (by decide)) (by exact Ints.lit _ [4, 0] _ _ rfl (by decide)) rfl rfl).mono ?_
      rintro e w1 ⟨Ax, cx, Ay, cy, rfl, hx, hy, kx, ky, bw1⟩
      replace bw1 := below_of1 bw1
      replace h0 := h0.below bw1
      replace h1 := h1.below bw1
      replace hb := below_trans hb bw1
      clear bw1
      go_wp2_with fail
      refine (equal_at Ay _ [3, 2] [3, 2] _ _ _ _ _ (by exact Ints.alloc hy _) (by exact Ints.lit _ [3, 2] _ _ rfl (by decide)) rfl rfl).mono ?_
      rintro e w2 ⟨rfl, nw2, hww2⟩
      have bw2 := below_of_drewN hww2
      clear hww2
      replace bw2 := below_of1 bw2
      replace h0 := h0.below bw2
      replace h1 := h1.below bw2
      replace hb := below_trans hb bw2
      clear bw2
      rw [eqB_true rfl]
      clear hx hy kx ky
      go_wp2_with fail
      refine (lrun_yes a0 l0 (goL l0 n) (waL l0 n) _ l0.length c0 n _ HE (Lib.hid rfl) (Lib.hid rfl) h0 rfl rfl).mono ?_
      rintro e w3 ⟨Ax, cx, Ap, cp, rfl, hx, hp, kx, kp, bw3⟩
      replace h0 := h0.below bw3
      replace h1 := h1.below bw3
      replace hb := below_trans hb bw3
      clear bw3
      go_wp2_with fail
      refine (concat_at _ c0 c1 a0 a1 l0 l1 M _ HMM (two_new _ _ _ _) (Ints.alloc h0 _) (Ints.alloc h1 _) N0.out N1.out hs).mono ?_
      rintro e w4 ⟨Am, cm, rfl, om, bm⟩
      replace bm := below_of1 bm
      replace h0 := h0.below bm
      replace h1 := h1.below bm
      replace hb := below_trans hb bm
      have hm := Ints.of_own om
      clear om
      replace hx := hx.below bm
      replace hp := hp.below bm
      clear bm
      go_wp2_with fail
      refine (lrun_no Am M cm n _ hM hm).mono ?_
      rintro e w5 ⟨Ay, cy, Aq, cq, rfl, b5⟩
      replace hb := below_trans hb b5
      clear b5
      go_wp2
      go_ret
      exact ⟨rfl, hb⟩
  · have e1 : (linE l0 n != 0) = true := by simp [hE]
    go_enter Try.func10, Try.ntmps10
    go_wp2_with fail
    refine (lrun_yes _ [4, 0] [1, 1] [3, 2] _ 2 _ 1 _ (Lib.hid (by decide)) (Lib.hid (by decide)) (Lib.hid (by decide)) (by exact Ints.lit _ [4, 0] _ _ rfl (by decide)) rfl rfl).mono ?_
    rintro e w1 ⟨Ax, cx, Ay, cy, rfl, hx, hy, kx, ky, bw1⟩
    replace bw1 := below_of1 bw1
    replace h0 := h0.below bw1
    replace h1 := h1.below bw1
    replace hb := below_trans hb bw1
    clear bw1
    go_wp2_with fail
    refine (equal_at Ay _ [3, 2] [3, 2] _ _ _ _ _ (by exact Ints.alloc hy _) (by exact Ints.lit _ [3, 2] _ _ rfl (by decide)) rfl rfl).mono ?_
    rintro e w2 ⟨rfl, nw2, hww2⟩
    have bw2 := below_of_drewN hww2
    clear hww2
    replace bw2 := below_of1 bw2
    replace h0 := h0.below bw2
    replace h1 := h1.below bw2
    replace hb := below_trans hb bw2
    clear bw2
    rw [eqB_true rfl]
    clear hx hy kx ky
    go_wp2_with fail
    refine (lrun_no a0 l0 c0 n _ hE h0).mono ?_
    rintro e w3 ⟨Ax, cx, Ay, cy, rfl, bx⟩
    replace h0 := h0.below bx
    replace h1 := h1.below bx
    replace hb := below_trans hb bx
    clear bx
    go_wp2_with fail
    refine (concat_at _ c0 c1 a0 a1 l0 l1 M _ HMM (two_new _ _ _ _) (Ints.alloc h0 _) (Ints.alloc h1 _) N0.out N1.out hs).mono ?_
    rintro e w4 ⟨Am, cm, rfl, om, bm⟩
    replace bm := below_of1 bm
    replace h0 := h0.below bm
    replace h1 := h1.below bm
    replace hb := below_trans hb bm
    have hm := Ints.of_own om
    clear om
    go_wp2_with fail
    refine (lrun_any Am M cm n _ hm).mono ?_
    rintro e w5 ⟨Ay, cy, Aq, cq, rfl, _, _, _, b5⟩
    replace hb := below_trans hb b5
    clear b5
    go_wp2
    go_ret
    exact ⟨rfl, hb⟩

end Go.Proofs.Ytifmefachdfmjaa
