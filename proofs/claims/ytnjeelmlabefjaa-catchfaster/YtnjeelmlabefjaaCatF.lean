
/-
  The walk of the law CatchFaster over the contracts of package catch.
-/
import Derived.Test.YtnjeelmlabefjaaCatC
import Derived.Test.YtnjeelmlabefjaaLineK
import Derived.Test.YtnjeelmlabefjaaUpP
namespace Go.Proofs.Ytnjeelmlabefjaa
set_option linter.all false
open Go.RowKit Go.Shelf



set_option maxRecDepth 100000 in
set_option maxHeartbeats 6400000 in
theorem v_CatchFaster (K : CatC) (a0 : Option Addr) (c0 : Nat) (l0 : List Int) (a1 : Option Addr) (c1 : Nat) (l1 : List Int) (n1 n2 n3 n4 : Int) (w : World)
    (h0 : Ints w a0 l0) (_k0 : l0.length ≤ c0) (h1 : Ints w a1 l1) (_k1 : l1.length ≤ c1) (_1 : (Lit.int .i64 n1).wf = true) (_2 : (Lit.int .i64 n2).wf = true) (_3 : (Lit.int .i64 n3).wf = true) (_4 : (Lit.int .i64 n4).wf = true) :
    Calls Try.prog 7 #[.slice a0 l0.length c0, .slice a1 l1.length c1, .int .i64 n1, .int .i64 n2, .int .i64 n3, .int .i64 n4] w fun e w' => e = .returned (.bool true) ∧ Below w.heap.size w w' := by
  have hb : Below w.heap.size w w := Below.refl _ _
  clear _1 _2 _3 _4 _k0 _k1
  by_cases hE : lgE l0 n1 n3 = 0
  · have ok := lg_ok hE
    have va := ok.tr
    have r0 := ok.r0
    have r1 := ok.r1
    have g0 := ok.g0
    have g1 := ok.g1
    have HE := Lib.hid hE
    have hle := va.le
    clear hE ok
    by_cases hC : trk l1 = 0
    · have vb := trk_iff.1 hC
      have HC := Lib.hid hC
      clear hC
      by_cases hL : l1.length = l0.length
      · have e2 : ((l1.length : Int) != (l0.length : Int)) = false := by rw [hL]; simp
        have e3 : (l1.length != l0.length) = false := by simp [hL]
        have L3 : l1.length ≤ l0.length := by omega
        have L4 : l0.length ≤ l1.length := by omega
        obtain ⟨G, hG⟩ : ∃ G : Nat → Int, G = fun i => min (gt l0 i) (gt l1 i) := ⟨_, rfl⟩
        obtain ⟨C, hCC⟩ : ∃ C, C = tab l0.length G := ⟨_, rfl⟩
        have HG : Hid (∀ i, G i = min (gt l0 i) (gt l1 i)) := Lib.hid (fun i => by rw [hG])
        have CL : Hid (C.length = l0.length) := Lib.hid (by rw [hCC, length_tab])
        have cvC : ∀ i, i < l0.length → gt C i = min (gt l0 i) (gt l1 i) := fun i hi => by rw [hCC, gt_tab _ hi, HG.out]
        have vC : Tr C := by
          refine ⟨by rw [CL.out]; exact va.le, fun i hi => ?_, fun i hi => ?_⟩ <;> rw [CL.out] at hi <;> rw [cvC i hi]
          · have := va.lo i hi; have := vb.lo i (by omega); omega
          · have := va.hi i hi; omega
        obtain ⟨S, hS⟩ : ∃ y, y = wi n2 (10000 - n1 + 1) := ⟨_, rfl⟩
        have Slo : 0 ≤ S := by rw [hS]; exact wi_nonneg _ _ (by omega)
        have Shi : S < (10000 - n1 + 1) := by rw [hS]; exact wi_lt n2 (10000 - n1 + 1) (by omega)
        have HS := Lib.hid hS
        clear hS
        obtain ⟨R, hR⟩ : ∃ y, y = wi n4 (n3 + 1) := ⟨_, rfl⟩
        have Rlo : 0 ≤ R := by rw [hR]; exact wi_nonneg _ _ (by omega)
        have Rhi : R < (n3 + 1) := by rw [hR]; exact wi_lt n4 (n3 + 1) (by omega)
        have HR := Lib.hid hR
        clear hR
        have HEC : Hid (lgE C (n1 + S) R = 0) := Lib.hid (lg_of ⟨vC, by omega, by omega, by omega, by omega⟩)
        have LY : Hid (l0.length + 1 = C.length + 1) := Lib.hid (by rw [CL.out])
        have hmn : Hid (∀ t, t ≤ l0.length → lgV C (n1 + S) R t ≤ lgV l0 n1 n3 t) := Lib.hid (fun t ht => lg_mono (by omega) (by omega) (fun i hi => by rw [cvC i hi]; omega) t ht)
        have HCC := Lib.hid hCC
        clear hL hG hCC cvC vC
        go_enter Try.func7, Try.ntmps7
        go_wp2_with fail
        refine (K.lag_yes _ [3, 1] [1, 2, 1] _ 3 _ 2 1 _ (by exact Ints.lit _ [3, 1] _ _ rfl (by decide)) (Lib.hid (by decide)) (Lib.hid (by decide)) rfl rfl).mono ?_
        rintro e w1 ⟨Ax, cx, rfl, hx, kx, bw1⟩
        replace bw1 := below_of1 bw1
        replace h0 := h0.below bw1
        replace h1 := h1.below bw1
        replace hb := below_trans hb bw1
        clear bw1
        go_wp2_with fail
        refine (equal_at Ax _ [1, 2, 1] [1, 2, 1] _ _ _ _ _ (by exact Ints.alloc hx _) (by exact Ints.lit _ [1, 2, 1] _ _ rfl (by decide)) rfl rfl).mono ?_
        rintro e w2 ⟨rfl, nw2, hww2⟩
        have bw2 := below_of_drewN hww2
        clear hww2
        replace bw2 := below_of1 bw2
        replace h0 := h0.below bw2
        replace h1 := h1.below bw2
        replace hb := below_trans hb bw2
        clear bw2
        rw [eqB_true rfl]
        clear hx kx
        go_wp2_with fail
        refine (K.lag_yes a0 l0 (lgL l0 n1 n3) _ (l0.length + 1) c0 n1 n3 _ h0 HE (Lib.hid rfl) rfl rfl).mono ?_
        rintro e w3 ⟨Ax, cx, rfl, hx, kx, bw3⟩
        replace h0 := h0.below bw3
        replace h1 := h1.below bw3
        replace hb := below_trans hb bw3
        clear bw3
        go_wp2_with fail
        refine (trCheck_any a1 l1 c1 _ h1).mono ?_
        rintro e w' ⟨rfl, rfl⟩
        rw [HC.out]
        go_wp2_with fail
        refine (clone_all a0 l0 c0 _ h0 (by omega)).mono ?_
        rintro e w4 ⟨Ab, cb, rfl, ob, b4⟩
        rw [show l0.map (Value.int .i64) = (tab l0.length (upV G l0 0)).map (Value.int .i64) by rw [up_zero]] at ob
        go_wp2
        go_loopw [72] (fun i wr => ∃ k : Nat, k ≤ l0.length ∧ i = .int .i64 k ∧ wr.ownsRow w3.heap.size 3 1 (.slice Ab l0.length cb) l0.length ((tab l0.length (upV G l0 k)).map (Value.int .i64)) ∧ Below w3.heap.size w3 wr) (fun i _ => l0.length - (intOf i).toNat)
        case atStart => exact ⟨0, Nat.zero_le _, rfl, ob, b4⟩
        case round =>
          clear ob b4
          obtain ⟨k, hk, rfl, own, hbel⟩ := hrel
          by_cases hlt : k < l0.length
          · obtain ⟨g, cap, hv', hg, hgl⟩ := own.form (by omega)
            obtain ⟨rfl, rfl⟩ : Ab = some ⟨g, 0, none⟩ ∧ cb = cap := by injection hv' with a b c; exact ⟨a, c⟩
            clear hv'
            obtain ⟨b1, o1, z, e1, hc1, HZ⟩ := (h1.below hbel).at_ (k := k) (by omega)
            subst e1
            have hz := gt_of_get HZ.out
            obtain ⟨x, hx'⟩ : ∃ x, x = gt l0 k := ⟨_, rfl⟩
            have hc0 : wr.cell? ⟨g, k, none⟩ = some (.int .i64 x) := by
              rw [own.cellAt k (by omega), List.getElem?_map, get_tab _ hlt, upV, if_neg (by omega), hx']; rfl
            have hf0 := own.frozenAt k
            have HR2 : Hid (∀ u : Int, u = min x z → ((wr.setCell ⟨g, k, none⟩ (.int .i64 u)).drew).ownsRow w3.heap.size 3 1 (.slice (some ⟨g, 0, none⟩) l0.length cb) l0.length ((tab l0.length (upV G l0 (k + 1))).map (Value.int .i64))) := Lib.hid (fun u hu => by
              have q := (own.stored k (.int .i64 u)).1
              rw [show ((tab l0.length (upV G l0 k)).map (Value.int .i64)).set k (.int .i64 u) = (tab l0.length (upV G l0 (k + 1))).map (Value.int .i64) by rw [← up_set, List.map_set, hu, HG.out, hx', hz]] at q
              exact q)
            have HB2 : Hid (∀ u : Value, Below w3.heap.size w3 ((wr.setCell ⟨g, k, none⟩ u).drew)) := Lib.hid (fun u => by
              have q := hbel.setCell (p := ⟨g, k, none⟩) hg u
              exact ⟨q.os, q.tape, q.output, q.size, q.block⟩)
            have i1 : (k : Int) < (l0.length : Int) := by omega
            have i2 : (k : Int) < (l1.length : Int) := by omega
            clear hz hx'
            rcases Int.lt_trichotomy x z with q | q | q
            all_goals
              go_wp2
              go_region
              go_wp2
              go_roundw
              case rel => exact ⟨k + 1, by omega, by go_num, HR2.out _ (by omega), HB2.out _⟩
              case measure => simp [intOf]; omega
          · obtain rfl : k = l0.length := by omega
            rw [up_full, ← HCC.out, ← CL.out] at own
            have hB' := Ints.of_own own
            replace hx := hx.below hbel
            replace hb := below_trans hb hbel
            clear own hbel h0 h1
            go_wp2_with fail
            refine (within_any n2 (10000 - n1 + 1) _ (by omega) (by omega)).mono ?_
            rintro e w' ⟨rfl, rfl⟩
            rw [← HS.out]
            go_wp2_with fail
            refine (within_any n4 (n3 + 1) _ (by omega) (by omega)).mono ?_
            rintro e w' ⟨rfl, rfl⟩
            rw [← HR.out]
            go_wp2_with fail
            refine (K.lag_yes Ab C (lgL C (n1 + S) R) _ (l0.length + 1) _ (n1 + S) R _ hB' HEC (Lib.hid rfl) CL.out.symm LY.out).mono ?_
            rintro e w5 ⟨Ay, cy, rfl, hy, ky, bw5⟩
            replace hx := hx.below bw5
            replace hb := below_trans hb bw5
            clear bw5
            go_wp2
            go_loopw [115] (fun i wr => ∃ k n : Nat, k ≤ l0.length + 1 ∧ i = .int .i64 k ∧ wr = w5.drewN n) (fun i _ => l0.length + 1 - (intOf i).toNat)
            case atStart => exact ⟨0, 0, Nat.zero_le _, rfl, rfl⟩
            case round =>
              obtain ⟨t, n, ht, rfl, rfl⟩ := hrel
              by_cases hlt : t < l0.length + 1
              · obtain ⟨b1, o1, x, e1, hc1, HX⟩ := hx.at_ (k := t) (by rw [length_lgL]; exact hlt)
                obtain ⟨b2, o2, y, e2, hc2, HY⟩ := hy.at_ (k := t) (by rw [length_lgL, CL.out]; exact hlt)
                subst e1 e2
                have hx' := gt_of_get HX.out
                have hy' := gt_of_get HY.out
                rw [gt_lgL (by omega)] at hx'
                rw [gt_lgL (by rw [CL.out]; omega)] at hy'
                have i1 : (t : Int) < (l0.length : Int) + 1 := by omega
                have i2 : ¬ x < y := by have := hmn.out t (by omega); omega
                clear hx' hy'
                go_wp2
                go_quiet (fail)
                go_wp2
                go_roundw
                case rel => exact ⟨t + 1, n + nq, by omega, by go_num, by simp [World.drewN, Nat.add_assoc]⟩
                case measure => simp [intOf]; omega
              · obtain rfl : t = l0.length + 1 := by omega
                have i1 : ¬ ((l0.length + 1 : Nat) : Int) < (l0.length : Int) + 1 := by omega
                go_wp2
                go_ret
                exact ⟨rfl, below_trans hb (below_of_drewN rfl)⟩
      · have e2 : ((l1.length : Int) != (l0.length : Int)) = true := by rw [bne_iff_ne]; omega
        have e3 : (l1.length != l0.length) = true := by simp [hL]
        clear hL
        go_enter Try.func7, Try.ntmps7
        go_wp2_with fail
        refine (K.lag_yes _ [3, 1] [1, 2, 1] _ 3 _ 2 1 _ (by exact Ints.lit _ [3, 1] _ _ rfl (by decide)) (Lib.hid (by decide)) (Lib.hid (by decide)) rfl rfl).mono ?_
        rintro e w1 ⟨Ax, cx, rfl, hx, kx, bw1⟩
        replace bw1 := below_of1 bw1
        replace h0 := h0.below bw1
        replace h1 := h1.below bw1
        replace hb := below_trans hb bw1
        clear bw1
        go_wp2_with fail
        refine (equal_at Ax _ [1, 2, 1] [1, 2, 1] _ _ _ _ _ (by exact Ints.alloc hx _) (by exact Ints.lit _ [1, 2, 1] _ _ rfl (by decide)) rfl rfl).mono ?_
        rintro e w2 ⟨rfl, nw2, hww2⟩
        have bw2 := below_of_drewN hww2
        clear hww2
        replace bw2 := below_of1 bw2
        replace h0 := h0.below bw2
        replace h1 := h1.below bw2
        replace hb := below_trans hb bw2
        clear bw2
        rw [eqB_true rfl]
        clear hx kx
        go_wp2_with fail
        refine (K.lag_yes a0 l0 (lgL l0 n1 n3) _ (l0.length + 1) c0 n1 n3 _ h0 HE (Lib.hid rfl) rfl rfl).mono ?_
        rintro e w3 ⟨Ax, cx, rfl, hx, kx, bw3⟩
        replace h0 := h0.below bw3
        replace h1 := h1.below bw3
        replace hb := below_trans hb bw3
        clear bw3
        go_wp2_with fail
        refine (trCheck_any a1 l1 c1 _ h1).mono ?_
        rintro e w' ⟨rfl, rfl⟩
        rw [HC.out]
        go_wp2
        go_ret
        exact ⟨rfl, hb⟩
    · have e3 : (trk l1 != 0) = true := by simp [hC]
      clear hC
      go_enter Try.func7, Try.ntmps7
      go_wp2_with fail
      refine (K.lag_yes _ [3, 1] [1, 2, 1] _ 3 _ 2 1 _ (by exact Ints.lit _ [3, 1] _ _ rfl (by decide)) (Lib.hid (by decide)) (Lib.hid (by decide)) rfl rfl).mono ?_
      rintro e w1 ⟨Ax, cx, rfl, hx, kx, bw1⟩
      replace bw1 := below_of1 bw1
      replace h0 := h0.below bw1
      replace h1 := h1.below bw1
      replace hb := below_trans hb bw1
      clear bw1
      go_wp2_with fail
      refine (equal_at Ax _ [1, 2, 1] [1, 2, 1] _ _ _ _ _ (by exact Ints.alloc hx _) (by exact Ints.lit _ [1, 2, 1] _ _ rfl (by decide)) rfl rfl).mono ?_
      rintro e w2 ⟨rfl, nw2, hww2⟩
      have bw2 := below_of_drewN hww2
      clear hww2
      replace bw2 := below_of1 bw2
      replace h0 := h0.below bw2
      replace h1 := h1.below bw2
      replace hb := below_trans hb bw2
      clear bw2
      rw [eqB_true rfl]
      clear hx kx
      go_wp2_with fail
      refine (K.lag_yes a0 l0 (lgL l0 n1 n3) _ (l0.length + 1) c0 n1 n3 _ h0 HE (Lib.hid rfl) rfl rfl).mono ?_
      rintro e w3 ⟨Ax, cx, rfl, hx, kx, bw3⟩
      replace h0 := h0.below bw3
      replace h1 := h1.below bw3
      replace hb := below_trans hb bw3
      clear bw3
      go_wp2_with fail
      refine (trCheck_any a1 l1 c1 _ h1).mono ?_
      rintro e w' ⟨rfl, rfl⟩
      go_wp2
      go_ret
      exact ⟨rfl, hb⟩
  · have e1 : (lgE l0 n1 n3 != 0) = true := by simp [hE]
    have HE := Lib.hid hE
    clear hE
    go_enter Try.func7, Try.ntmps7
    go_wp2_with fail
    refine (K.lag_yes _ [3, 1] [1, 2, 1] _ 3 _ 2 1 _ (by exact Ints.lit _ [3, 1] _ _ rfl (by decide)) (Lib.hid (by decide)) (Lib.hid (by decide)) rfl rfl).mono ?_
    rintro e w1 ⟨Ax, cx, rfl, hx, kx, bw1⟩
    replace bw1 := below_of1 bw1
    replace h0 := h0.below bw1
    replace h1 := h1.below bw1
    replace hb := below_trans hb bw1
    clear bw1
    go_wp2_with fail
    refine (equal_at Ax _ [1, 2, 1] [1, 2, 1] _ _ _ _ _ (by exact Ints.alloc hx _) (by exact Ints.lit _ [1, 2, 1] _ _ rfl (by decide)) rfl rfl).mono ?_
    rintro e w2 ⟨rfl, nw2, hww2⟩
    have bw2 := below_of_drewN hww2
    clear hww2
    replace bw2 := below_of1 bw2
    replace h0 := h0.below bw2
    replace h1 := h1.below bw2
    replace hb := below_trans hb bw2
    clear bw2
    rw [eqB_true rfl]
    clear hx kx
    go_wp2_with fail
    refine (K.lag_no a0 l0 _ c0 n1 n3 _ h0 HE rfl).mono ?_
    rintro e w3 ⟨⟨B, d, rfl⟩, b3⟩
    replace hb := below_trans hb b3
    clear b3
    go_wp2
    go_ret
    exact ⟨rfl, hb⟩

end Go.Proofs.Ytnjeelmlabefjaa
