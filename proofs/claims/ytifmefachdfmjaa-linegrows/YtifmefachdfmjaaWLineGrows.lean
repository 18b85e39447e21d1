
/-
  The walk of the law LineGrows.
-/
import Derived.Test.YtifmefachdfmjaaLineK
import Derived.Test.YtifmefachdfmjaaKeepA
namespace Go.Proofs.Ytifmefachdfmjaa
set_option linter.all false
open Go.RowKit Go.Shelf



/-- What comes, with what is more, of the first k slots. -/
def moV (a b : List Int) (k i : Nat) : Int := if i < k then min 10000 (gt a i + gt b i) else gt a i
theorem mo_set {a b : List Int} {n k : Nat} : (tab n (moV a b k)).set k (min 10000 (gt a k + gt b k)) = tab n (moV a b (k + 1)) := by
  refine list_ext (by simp [length_tab]) (fun i hi => ?_)
  simp only [List.length_set, length_tab] at hi
  rw [gt_tab _ hi]
  by_cases e : i = k
  · subst e
    rw [show gt ((tab n (moV a b i)).set i (min 10000 (gt a i + gt b i))) i = min 10000 (gt a i + gt b i) from gt_of_get (by rw [List.getElem?_set_self (by rw [length_tab]; exact hi)]), moV, if_pos (by omega)]
  · rw [show gt ((tab n (moV a b k)).set k (min 10000 (gt a k + gt b k))) i = gt (tab n (moV a b k)) i by simp only [gt, List.getD]; rw [List.getElem?_set_ne (by omega)], gt_tab _ hi]
    unfold moV
    by_cases c : i < k
    · rw [if_pos c, if_pos (by omega)]
    · rw [if_neg c, if_neg (by omega)]
theorem mo_zero (a b : List Int) : tab a.length (moV a b 0) = a := by
  refine list_ext (length_tab _ _) (fun i hi => ?_)
  rw [length_tab] at hi
  rw [gt_tab _ hi, moV, if_neg (by omega)]

set_option maxRecDepth 100000 in
set_option maxHeartbeats 3200000 in
theorem walk_LineGrows (a0 : Option Addr) (c0 : Nat) (l0 : List Int) (a1 : Option Addr) (c1 : Nat) (l1 : List Int) (m n : Int) (w : World)
    (h0 : Ints w a0 l0) (k0 : l0.length ≤ c0) (h1 : Ints w a1 l1) (k1 : l1.length ≤ c1) (_hm : (Lit.int .i64 m).wf = true) (_hn : (Lit.int .i64 n).wf = true) :
    Calls Try.prog 8 #[.slice a0 l0.length c0, .slice a1 l1.length c1, .int .i64 m, .int .i64 n] w fun e w' => e = .returned (.bool true) ∧ Below w.heap.size w w' := by
  have hb : Below w.heap.size w w := Below.refl _ _
  clear _hm _hn
  obtain ⟨R, hR⟩ : ∃ y, y = wi m 5001 := ⟨_, rfl⟩
  have Rlo : 0 ≤ R := by rw [hR]; exact wi_nonneg _ _ (by omega)
  have Rhi : R < 5001 := by rw [hR]; exact wi_lt m 5001 (by omega)
  have HR := Lib.hid hR
  clear hR
  obtain ⟨S, hS⟩ : ∃ y, y = wi n 5001 := ⟨_, rfl⟩
  have Slo : 0 ≤ S := by rw [hS]; exact wi_nonneg _ _ (by omega)
  have Shi : S < 5001 := by rw [hS]; exact wi_lt n 5001 (by omega)
  have HS := Lib.hid hS
  clear hS
  by_cases hE : linE l0 R = 0
  · obtain ⟨v, _, _⟩ := lin_ok hE
    have HE := Lib.hid hE
    have HE' := Lib.hid (lin_of (r := R + S) v (by omega) (by omega))
    have hle := v.le
    clear hE
    by_cases hC : trk l1 = 0
    · have v1 := trk_iff.1 hC
      have HC := Lib.hid hC
      clear hC
      by_cases hL : l1.length = l0.length
      · have HL := Lib.hid hL
        have L1 : l1.length ≤ l0.length := by omega
        have L2 : l0.length ≤ l1.length := by omega
        have e2 : (l1.length != l0.length) = false := by simp [hL]
        clear hL
        obtain ⟨B, hB⟩ : ∃ B, B = tab l0.length (moV l0 l1 l0.length) := ⟨_, rfl⟩
        have bl : B.length = l0.length := by rw [hB, length_tab]
        have bv : ∀ i, i < l0.length → gt B i = min 10000 (gt l0 i + gt l1 i) := fun i hi => by rw [hB, gt_tab _ hi, moV, if_pos hi]
        have vB : Tr B := by
          refine ⟨by omega, fun i hi => ?_, fun i hi => ?_⟩ <;> rw [bv i (by omega)]
          · have := v.lo i (by omega); have := v1.lo i (by omega); omega
          · omega
        have HEB := Lib.hid (lin_of (r := R) vB Rlo (by omega))
        have BL := Lib.hid bl
        have HB := Lib.hid hB
        have M1 : Hid (∀ t, t ≤ l0.length → waV l0 (R + S) t ≤ waV l0 R t) := Lib.hid (wa_mono (by omega) (fun _ _ => Int.le_refl _))
        have M2 : Hid (∀ t, t ≤ l0.length → waV l0 R t ≤ waV B R t) := Lib.hid (fun t ht => wa_mono (Int.le_refl _) (fun i hi => by
          rw [bv i (by omega)]
          have := v.hi i (by omega); have := v1.lo i (by omega); omega) t (by omega))
        clear hB bl bv
        go_enter Try.func8, Try.ntmps8
        go_wp2_with fail
        refine (lrun_yes _ [5] [4] [1] _ 1 _ 4 _ (Lib.hid (by decide)) (Lib.hid (by decide)) (Lib.hid (by decide)) (by exact Ints.lit _ [5] _ _ rfl (by decide)) rfl rfl).mono ?_
        rintro e w1 ⟨Ax, cx, Ay, cy, rfl, hx, hy, kx, ky, bw1⟩
        replace bw1 := below_of1 bw1
        replace h0 := h0.below bw1
        replace h1 := h1.below bw1
        replace hb := below_trans hb bw1
        clear bw1
        go_wp2_with fail
        refine (equal_at Ay _ [1] [1] _ _ _ _ _ (by exact Ints.alloc hy _) (by exact Ints.lit _ [1] _ _ rfl (by decide)) rfl rfl).mono ?_
        rintro e w2 ⟨rfl, nw2, hww2⟩
        have bw2 := below_of_drewN hww2
        clear hww2
        replace bw2 := below_of1 bw2
        replace h0 := h0.below bw2
        replace h1 := h1.below bw2
        replace hb := below_trans hb bw2
        clear bw2
        rw [eqB_true rfl]
        clear hx hy kx ky
        go_wp2_with fail
        refine (within_any m 5001 _ (by omega) (by omega)).mono ?_
        rintro e w' ⟨rfl, rfl⟩
        rw [← HR.out]
        go_wp2_with fail
        refine (within_any n 5001 _ (by omega) (by omega)).mono ?_
        rintro e w' ⟨rfl, rfl⟩
        rw [← HS.out]
        go_wp2_with fail
        refine (lrun_yes a0 l0 (goL l0 R) (waL l0 R) _ l0.length c0 R _ HE (Lib.hid rfl) (Lib.hid rfl) h0 rfl rfl).mono ?_
        rintro e w3 ⟨Au, cu, Ax, cx, rfl, hu, hx, ku, kx, bw3⟩
        replace h0 := h0.below bw3
        replace h1 := h1.below bw3
        replace hb := below_trans hb bw3
        clear bw3
        go_wp2_with fail
        refine (lrun_yes a0 l0 (goL l0 (R + S)) (waL l0 (R + S)) _ l0.length c0 (R + S) _ HE' (Lib.hid rfl) (Lib.hid rfl) h0 rfl rfl).mono ?_
        rintro e w4 ⟨Ap, cp, Ay, cy, rfl, hp, hy, kp, ky, bw4⟩
        replace h0 := h0.below bw4
        replace h1 := h1.below bw4
        replace hx := hx.below bw4
        replace hb := below_trans hb bw4
        clear bw4
        go_wp2_with fail
        refine (trCheck_any a1 l1 c1 _ h1).mono ?_
        rintro e w' ⟨rfl, rfl⟩
        rw [HC.out]
        go_wp2_with fail
        refine (clone_all a0 l0 c0 _ h0 (by omega)).mono ?_
        rintro e w5 ⟨Ab, cb, rfl, ob, b5⟩
        rw [show l0.map (Value.int .i64) = (tab l0.length (moV l0 l1 0)).map (Value.int .i64) by rw [mo_zero]] at ob
        go_wp2
        go_loopw [100] (fun i wr => ∃ k : Nat, k ≤ l0.length ∧ i = .int .i64 k ∧ wr.ownsRow w4.heap.size 3 1 (.slice Ab l0.length cb) l0.length ((tab l0.length (moV l0 l1 k)).map (Value.int .i64)) ∧ Below w4.heap.size w4 wr) (fun i _ => l0.length - (intOf i).toNat)
        case atStart => exact ⟨0, Nat.zero_le _, rfl, ob, b5⟩
        case round =>
          clear ob b5
          obtain ⟨k, hk, rfl, own, hbel⟩ := hrel
          by_cases hlt : k < l0.length
          · obtain ⟨g, cap, hv, hg, hgl⟩ := own.form (by omega)
            obtain ⟨rfl, rfl⟩ : Ab = some ⟨g, 0, none⟩ ∧ cb = cap := by injection hv with a b c; exact ⟨a, c⟩
            clear hv
            obtain ⟨b1, o1, z, e1, hc1, HZ⟩ := (h1.below hbel).at_ (k := k) (by omega)
            subst e1
            have hz := gt_of_get HZ.out
            have z0 : 0 ≤ z := by rw [← hz]; exact v1.lo k (by omega)
            have z1 : z ≤ 10000 := by rw [← hz]; exact v1.hi k (by omega)
            obtain ⟨x, hx'⟩ : ∃ x, x = gt l0 k := ⟨_, rfl⟩
            have x0 : 0 ≤ x := by rw [hx']; exact v.lo k hlt
            have x1 : x ≤ 10000 := by rw [hx']; exact v.hi k hlt
            have hc0 : wr.cell? ⟨g, k, none⟩ = some (.int .i64 x) := by
              rw [own.cellAt k (by omega), List.getElem?_map, get_tab _ hlt, moV, if_neg (by omega), hx']; rfl
            have hf0 := own.frozenAt k
            have HO2 : Hid (∀ u : Int, u = min 10000 (x + z) → ((wr.setCell ⟨g, k, none⟩ (.int .i64 u)).drew).ownsRow w4.heap.size 3 1 (.slice (some ⟨g, 0, none⟩) l0.length cb) l0.length ((tab l0.length (moV l0 l1 (k + 1))).map (Value.int .i64))) := Lib.hid (fun u hu => by
              have q := (own.stored k (.int .i64 u)).1
              rw [show ((tab l0.length (moV l0 l1 k)).map (Value.int .i64)).set k (.int .i64 u) = (tab l0.length (moV l0 l1 (k + 1))).map (Value.int .i64) by rw [← mo_set, List.map_set, hu, hx', hz]] at q
              exact q)
            have HB2 : Hid (∀ u : Value, Below w4.heap.size w4 ((wr.setCell ⟨g, k, none⟩ u).drew)) := Lib.hid (fun u => by
              have q := hbel.setCell (p := ⟨g, k, none⟩) hg u
              exact ⟨q.os, q.tape, q.output, q.size, q.block⟩)
            have i1 : (k : Int) < (l0.length : Int) := by omega
            have i2 : (k : Int) < (l1.length : Int) := by omega
            have s1 : IntKind.i64.wrap (x + z) = x + z := IntWalk.i64_in _ ⟨by omega, by omega⟩
            clear hz hx'
            rcases Int.lt_trichotomy (x + z) 10000 with q | q | q
            all_goals
              go_wp2
              go_region
              go_wp2
              go_roundw
              case rel => exact ⟨k + 1, by omega, by go_num, HO2.out _ (by omega), HB2.out _⟩
              case measure => simp [intOf]; omega
          · obtain rfl : k = l0.length := by omega
            rw [← HB.out, ← BL.out] at own
            have hB' := Ints.of_own own
            have hx5 := hx.below hbel
            have hy5 := hy.below hbel
            replace hb := below_trans hb hbel
            clear own hx hy hbel
            go_wp2_with fail
            refine (lrun_yes Ab B (goL B R) (waL B R) _ l0.length _ R _ HEB (Lib.hid rfl) (Lib.hid rfl) hB' BL.out.symm BL.out.symm).mono ?_
            rintro e w6 ⟨Aq, cq, Az, cz, rfl, hq, hz, kq, kz, bw6⟩
            replace hx5 := hx5.below bw6
            replace hy5 := hy5.below bw6
            replace hb := below_trans hb bw6
            clear bw6
            go_wp2
            go_loopw [135] (fun i wr => ∃ k nd : Nat, k ≤ l0.length ∧ i = .int .i64 k ∧ wr = w6.drewN nd) (fun i _ => l0.length - (intOf i).toNat)
            case atStart => exact ⟨0, 0, Nat.zero_le _, rfl, rfl⟩
            case round =>
              obtain ⟨k, nd, hk, rfl, rfl⟩ := hrel
              by_cases hlt : k < l0.length
              · obtain ⟨b1, o1, x, e1, hc1, HX⟩ := hx5.at_ (k := k) (by rw [length_waL]; exact hlt)
                obtain ⟨b2, o2, y, e2, hc2, HY⟩ := hy5.at_ (k := k) (by rw [length_waL]; exact hlt)
                obtain ⟨b3, o3, z, e3, hc3, HZ⟩ := hz.at_ (k := k) (by rw [length_waL, BL.out]; exact hlt)
                subst e1 e2 e3
                have hx' := gt_of_get HX.out
                have hy' := gt_of_get HY.out
                have hz' := gt_of_get HZ.out
                rw [gt_waL hlt] at hx'
                rw [gt_waL hlt] at hy'
                rw [gt_waL (by rw [BL.out]; exact hlt)] at hz'
                have q1 : y ≤ x := by rw [← hx', ← hy']; exact M1.out _ (by omega)
                have q2 : x ≤ z := by rw [← hx', ← hz']; exact M2.out _ (by omega)
                have t1 : decide (x < y) = false := decide_eq_false (by omega)
                have t2 : decide (z < x) = false := decide_eq_false (by omega)
                have i1 : (k : Int) < (l0.length : Int) := by omega
                clear hx' hy' hz'
                go_wp2
                go_quiet (fail)
                go_wp2
                go_roundw
                case rel => exact ⟨k + 1, nd + nq, by omega, by go_num, by simp [World.drewN, Nat.add_assoc]⟩
                case measure => simp [intOf]; omega
              · go_wp2
                go_ret
                exact ⟨rfl, below_trans hb (below_of_drewN rfl)⟩
      · have e2 : (l1.length != l0.length) = true := by simp [hL]
        clear hL
        go_enter Try.func8, Try.ntmps8
        go_wp2_with fail
        refine (lrun_yes _ [5] [4] [1] _ 1 _ 4 _ (Lib.hid (by decide)) (Lib.hid (by decide)) (Lib.hid (by decide)) (by exact Ints.lit _ [5] _ _ rfl (by decide)) rfl rfl).mono ?_
        rintro e w1 ⟨Ax, cx, Ay, cy, rfl, hx, hy, kx, ky, bw1⟩
        replace bw1 := below_of1 bw1
        replace h0 := h0.below bw1
        replace h1 := h1.below bw1
        replace hb := below_trans hb bw1
        clear bw1
        go_wp2_with fail
        refine (equal_at Ay _ [1] [1] _ _ _ _ _ (by exact Ints.alloc hy _) (by exact Ints.lit _ [1] _ _ rfl (by decide)) rfl rfl).mono ?_
        rintro e w2 ⟨rfl, nw2, hww2⟩
        have bw2 := below_of_drewN hww2
        clear hww2
        replace bw2 := below_of1 bw2
        replace h0 := h0.below bw2
        replace h1 := h1.below bw2
        replace hb := below_trans hb bw2
        clear bw2
        rw [eqB_true rfl]
        clear hx hy kx ky
        go_wp2_with fail
        refine (within_any m 5001 _ (by omega) (by omega)).mono ?_
        rintro e w' ⟨rfl, rfl⟩
        rw [← HR.out]
        go_wp2_with fail
        refine (within_any n 5001 _ (by omega) (by omega)).mono ?_
        rintro e w' ⟨rfl, rfl⟩
        rw [← HS.out]
        go_wp2_with fail
        refine (lrun_yes a0 l0 (goL l0 R) (waL l0 R) _ l0.length c0 R _ HE (Lib.hid rfl) (Lib.hid rfl) h0 rfl rfl).mono ?_
        rintro e w3 ⟨Au, cu, Ax, cx, rfl, hu, hx, ku, kx, bw3⟩
        replace h0 := h0.below bw3
        replace h1 := h1.below bw3
        replace hb := below_trans hb bw3
        clear bw3
        go_wp2_with fail
        refine (lrun_yes a0 l0 (goL l0 (R + S)) (waL l0 (R + S)) _ l0.length c0 (R + S) _ HE' (Lib.hid rfl) (Lib.hid rfl) h0 rfl rfl).mono ?_
        rintro e w4 ⟨Ap, cp, Ay, cy, rfl, hp, hy, kp, ky, bw4⟩
        replace h0 := h0.below bw4
        replace h1 := h1.below bw4
        replace hx := hx.below bw4
        replace hb := below_trans hb bw4
        clear bw4
        go_wp2_with fail
        refine (trCheck_any a1 l1 c1 _ h1).mono ?_
        rintro e w' ⟨rfl, rfl⟩
        rw [HC.out]
        go_wp2
        go_ret
        exact ⟨rfl, hb⟩
    · have e1 : (trk l1 != 0) = true := by simp [hC]
      clear hC
      go_enter Try.func8, Try.ntmps8
      go_wp2_with fail
      refine (lrun_yes _ [5] [4] [1] _ 1 _ 4 _ (Lib.hid (by decide)) (Lib.hid (by decide)) (Lib.hid (by decide)) (by exact Ints.lit _ [5] _ _ rfl (by decide)) rfl rfl).mono ?_
      rintro e w1 ⟨Ax, cx, Ay, cy, rfl, hx, hy, kx, ky, bw1⟩
      replace bw1 := below_of1 bw1
      replace h0 := h0.below bw1
      replace h1 := h1.below bw1
      replace hb := below_trans hb bw1
      clear bw1
      go_wp2_with fail
      refine (equal_at Ay _ [1] [1] _ _ _ _ _ (by exact Ints.alloc hy _) (by exact Ints.lit _ [1] _ _ rfl (by decide)) rfl rfl).mono ?_
      rintro e w2 ⟨rfl, nw2, hww2⟩
      have bw2 := below_of_drewN hww2
      clear hww2
      replace bw2 := below_of1 bw2
      replace h0 := h0.below bw2
      replace h1 := h1.below bw2
      replace hb := below_trans hb bw2
      clear bw2
      rw [eqB_true rfl]
      clear hx hy kx ky
      go_wp2_with fail
      refine (within_any m 5001 _ (by omega) (by omega)).mono ?_
      rintro e w' ⟨rfl, rfl⟩
      rw [← HR.out]
      go_wp2_with fail
      refine (within_any n 5001 _ (by omega) (by omega)).mono ?_
      rintro e w' ⟨rfl, rfl⟩
      rw [← HS.out]
      go_wp2_with fail
      refine (lrun_yes a0 l0 (goL l0 R) (waL l0 R) _ l0.length c0 R _ HE (Lib.hid rfl) (Lib.hid rfl) h0 rfl rfl).mono ?_
      rintro e w3 ⟨Au, cu, Ax, cx, rfl, hu, hx, ku, kx, bw3⟩
      replace h0 := h0.below bw3
      replace h1 := h1.below bw3
      replace hb := below_trans hb bw3
      clear bw3
      go_wp2_with fail
      refine (lrun_yes a0 l0 (goL l0 (R + S)) (waL l0 (R + S)) _ l0.length c0 (R + S) _ HE' (Lib.hid rfl) (Lib.hid rfl) h0 rfl rfl).mono ?_
      rintro e w4 ⟨Ap, cp, Ay, cy, rfl, hp, hy, kp, ky, bw4⟩
      replace h0 := h0.below bw4
      replace h1 := h1.below bw4
      replace hx := hx.below bw4
      replace hb := below_trans hb bw4
      clear bw4
      go_wp2_with fail
      refine (trCheck_any a1 l1 c1 _ h1).mono ?_
      rintro e w' ⟨rfl, rfl⟩
      go_wp2
      go_ret
      exact ⟨rfl, hb⟩
  · have e1 : (linE l0 R != 0) = true := by simp [hE]
    have hT : linE l0 (R + S) = linE l0 R := by
      unfold linE
      rw [if_neg (show ¬ (R < 0 ∨ 10000 < R) by omega), if_neg (show ¬ (R + S < 0 ∨ 10000 < R + S) by omega)]
    have hE' : ¬ linE l0 (R + S) = 0 := by rw [hT]; exact hE
    have e3 : (linE l0 R == linE l0 (R + S)) = true := by simp [hT]
    clear hT
    go_enter Try.func8, Try.ntmps8
    go_wp2_with fail
    refine (lrun_yes _ [5] [4] [1] _ 1 _ 4 _ (Lib.hid (by decide)) (Lib.hid (by decide)) (Lib.hid (by decide)) (by exact Ints.lit _ [5] _ _ rfl (by decide)) rfl rfl).mono ?_
    rintro e w1 ⟨Ax, cx, Ay, cy, rfl, hx, hy, kx, ky, bw1⟩
    replace bw1 := below_of1 bw1
    replace h0 := h0.below bw1
    replace h1 := h1.below bw1
    replace hb := below_trans hb bw1
    clear bw1
    go_wp2_with fail
    refine (equal_at Ay _ [1] [1] _ _ _ _ _ (by exact Ints.alloc hy _) (by exact Ints.lit _ [1] _ _ rfl (by decide)) rfl rfl).mono ?_
    rintro e w2 ⟨rfl, nw2, hww2⟩
    have bw2 := below_of_drewN hww2
    clear hww2
    replace bw2 := below_of1 bw2
    replace h0 := h0.below bw2
    replace h1 := h1.below bw2
    replace hb := below_trans hb bw2
    clear bw2
    rw [eqB_true rfl]
    clear hx hy kx ky
    go_wp2_with fail
    refine (within_any m 5001 _ (by omega) (by omega)).mono ?_
    rintro e w' ⟨rfl, rfl⟩
    rw [← HR.out]
    go_wp2_with fail
    refine (within_any n 5001 _ (by omega) (by omega)).mono ?_
    rintro e w' ⟨rfl, rfl⟩
    rw [← HS.out]
    go_wp2_with fail
    refine (lrun_no a0 l0 c0 R _ hE h0).mono ?_
    rintro e w3 ⟨Ax, cx, Ay, cy, rfl, bx⟩
    replace h0 := h0.below bx
    replace hb := below_trans hb bx
    clear bx
    go_wp2_with fail
    refine (lrun_no a0 l0 c0 (R + S) _ hE' h0).mono ?_
    rintro e w4 ⟨Ax', cx', Ay', cy', rfl, bx⟩
    replace hb := below_trans hb bx
    clear bx
    go_wp2
    go_ret
    exact ⟨rfl, hb⟩

end Go.Proofs.Ytifmefachdfmjaa
