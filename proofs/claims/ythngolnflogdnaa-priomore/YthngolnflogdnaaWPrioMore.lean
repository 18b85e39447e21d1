
/-
  The walk of the law PrioMore.
-/
import Derived.Test.YthngolnflogdnaaPrioA
import Derived.Test.YthngolnflogdnaaLineK
import Derived.Test.YthngolnflogdnaaUpP
import Derived.Deep.DeepCutAuto
namespace Go.Proofs.Ythngolnflogdnaa
set_option linter.all false
open Go.RowKit Go.Shelf



theorem go_more {a : List Int} {r s : Int} (va : Tr a) (r0 : 0 ≤ r) (h : r ≤ s) (s1 : s ≤ 10000) : leK (adL (goL a r)) (adL (goL a s)) = true := by
  refine (leK_iff (ad_cv (tr_go va r0 (by omega))) (ad_cv (tr_go va (by omega) s1)) (by rw [length_adL, length_adL, length_goL, length_goL])).2 (fun t ht => ?_)
  rw [length_adL, length_goL] at ht
  rw [gt_adL (by rw [length_goL]; omega), gt_adL (by rw [length_goL]; omega), sum_go t (by omega), sum_go t (by omega)]
  have := wa_mono (a := a) (b := a) h (fun _ _ => Int.le_refl _) t (by omega)
  omega
theorem gb_more {a c b : List Int} {r s : Int} (va : Tr a) (vc : Tr c) (vb : Tr b) (r0 : 0 ≤ r) (h : r ≤ s) (s1 : s ≤ 10000) (e : a.length = b.length) (e' : c.length = a.length) (hc : ∀ t, t < a.length → gt c t ≤ gt a t) : leK (adL (gbL a b r)) (adL (gbL c b s)) = true := by
  refine (leK_iff (ad_cv (tr_gb va vb r0 (by omega) e)) (ad_cv (tr_gb vc vb (by omega) s1 (by omega))) (by rw [length_adL, length_adL, length_gbL, length_gbL, e'])).2 (fun t ht => ?_)
  rw [length_adL, length_gbL] at ht
  rw [gt_adL (by rw [length_gbL]; omega), gt_adL (by rw [length_gbL]; omega), sum_gb t (by omega), sum_gb t (by omega)]
  have := wb_mono (a := a) (c := c) (b := b) h hc t (by omega)
  omega

set_option maxRecDepth 100000 in
set_option maxHeartbeats 6400000 in
theorem walk_PrioMore (a0 : Option Addr) (c0 : Nat) (l0 : List Int) (a1 : Option Addr) (c1 : Nat) (l1 : List Int) (a2 : Option Addr) (c2 : Nat) (l2 : List Int) (n m : Int) (w : World)
    (h0 : Ints w a0 l0) (k0 : l0.length ≤ c0) (h1 : Ints w a1 l1) (k1 : l1.length ≤ c1) (h2 : Ints w a2 l2) (k2 : l2.length ≤ c2) (_hn : (Lit.int .i64 n).wf = true) (_hm : (Lit.int .i64 m).wf = true) :
    Calls Try.prog 7 #[.slice a0 l0.length c0, .slice a1 l1.length c1, .slice a2 l2.length c2, .int .i64 n, .int .i64 m] w fun e w' => e = .returned (.bool true) ∧ Below w.heap.size w w' := by
  have hb : Below w.heap.size w w := Below.refl _ _
  clear _hn _hm
  by_cases hE : prE l0 l1 n = 0
  · obtain ⟨va, vb, r0, r1, el, hl⟩ := pr_ok hE
    have HE := Lib.hid hE
    have EL := Lib.hid el
    have hle := va.le
    have hle1 := vb.le
    obtain ⟨S, hS⟩ : ∃ y, y = wi m (10000 - n + 1) := ⟨_, rfl⟩
    have Slo : 0 ≤ S := by rw [hS]; exact wi_nonneg _ _ (by omega)
    have Shi : S < (10000 - n + 1) := by rw [hS]; exact wi_lt m (10000 - n + 1) (by omega)
    have HS := Lib.hid hS
    clear hS
    have HE' : Hid (prE l0 l1 (n + S) = 0) := Lib.hid (pr_of va vb (by omega) (by omega) el)
    have vx := tr_go va r0 r1
    have vy := tr_gb va vb r0 r1 el
    have vu := tr_go (r := n + S) va (by omega) (by omega)
    have vv := tr_gb (r := n + S) va vb (by omega) (by omega) el
    have LX : Hid ((goL l0 n).length = l0.length) := Lib.hid (length_goL _ _)
    have LY : Hid ((gbL l0 l1 n).length = l0.length) := Lib.hid (length_gbL _ _ _)
    have LU : Hid ((goL l0 (n + S)).length = l0.length) := Lib.hid (length_goL _ _)
    have LV : Hid ((gbL l0 l1 (n + S)).length = l0.length) := Lib.hid (length_gbL _ _ _)
    have LX1 : Hid (l0.length + 1 = (goL l0 n).length + 1) := Lib.hid (by rw [LX.out])
    have LY1 : Hid (l0.length + 1 = (gbL l0 l1 n).length + 1) := Lib.hid (by rw [LY.out])
    have LU1 : Hid (l0.length + 1 = (goL l0 (n + S)).length + 1) := Lib.hid (by rw [LU.out])
    have LV1 : Hid (l0.length + 1 = (gbL l0 l1 (n + S)).length + 1) := Lib.hid (by rw [LV.out])
    obtain ⟨O1, hO1⟩ : ∃ O, O = adL (goL l0 n) := ⟨_, rfl⟩
    obtain ⟨O2, hO2⟩ : ∃ O, O = adL (gbL l0 l1 n) := ⟨_, rfl⟩
    obtain ⟨O3, hO3⟩ : ∃ O, O = adL (goL l0 (n + S)) := ⟨_, rfl⟩
    obtain ⟨O4, hO4⟩ : ∃ O, O = adL (gbL l0 l1 (n + S)) := ⟨_, rfl⟩
    have HO1 : Hid (adL (goL l0 n) = O1) := Lib.hid hO1.symm
    have HO2 : Hid (adL (gbL l0 l1 n) = O2) := Lib.hid hO2.symm
    have HO3 : Hid (adL (goL l0 (n + S)) = O3) := Lib.hid hO3.symm
    have HO4 : Hid (adL (gbL l0 l1 (n + S)) = O4) := Lib.hid hO4.symm
    have LO1 : Hid (O1.length = l0.length + 1) := Lib.hid (by rw [hO1, length_adL, LX.out])
    have LO2 : Hid (O2.length = l0.length + 1) := Lib.hid (by rw [hO2, length_adL, LY.out])
    have LO3 : Hid (O3.length = l0.length + 1) := Lib.hid (by rw [hO3, length_adL, LU.out])
    have LO4 : Hid (O4.length = l0.length + 1) := Lib.hid (by rw [hO4, length_adL, LV.out])
    have K1 : Hid (leK O1 O3 = true) := Lib.hid (by rw [hO1, hO3]; exact go_more va r0 (by omega) (by omega))
    have K2 : Hid (leK O2 O4 = true) := Lib.hid (by rw [hO2, hO4]; exact gb_more va va vb r0 (by omega) (by omega) el rfl (fun _ _ => Int.le_refl _))
    have e1 : decide (n < 0) = false := decide_eq_false (by omega)
    clear hE hl el hO1 hO2 hO3 hO4
    go_enter Try.func7, Try.ntmps7
    go_wp2_with fail
    refine (prun_yes _ _ [2] [2] [2] [1] _ _ 1 _ _ 3 _ (Lib.hid (by decide)) (Lib.hid (by decide)) (Lib.hid (by decide)) (by exact Ints.litA _ _ _ _ _ rfl (by decide)) (by exact Ints.litB _ _ _ _ _ rfl (by decide)) rfl rfl rfl).mono ?_
    rintro e w1 ⟨Ax, cx, Ay, cy, rfl, hx, hy, kx, ky, bw1⟩
    replace bw1 := below_of2 bw1
    replace h0 := h0.below bw1
    replace h1 := h1.below bw1
    replace h2 := h2.below bw1
    replace hb := below_trans hb bw1
    clear bw1
    go_wp2_with fail
    refine (equal_at Ay _ [1] [1] _ _ _ _ _ (by exact Ints.alloc hy _) (by exact Ints.lit _ [1] _ _ rfl (by decide)) rfl rfl).mono ?_
    rintro e w2 ⟨rfl, nw2, hww2⟩
    have bw2 := below_of_drewN hww2
    clear hww2
    replace bw2 := below_of1 bw2
    replace h0 := h0.below bw2
    replace h1 := h1.below bw2
    replace h2 := h2.below bw2
    replace hb := below_trans hb bw2
    clear bw2
    rw [eqB_true rfl]
    clear hx hy kx ky
    go_wp2_with fail
    refine (prun_yes a0 a1 l0 l1 (goL l0 n) (gbL l0 l1 n) _ _ l0.length c0 c1 n _ HE (Lib.hid rfl) (Lib.hid rfl) h0 h1 rfl rfl rfl).mono ?_
    rintro e w3 ⟨Ax, cx, Ay, cy, rfl, hx, hy, kx, ky, bw3⟩
    replace h0 := h0.below bw3
    replace h1 := h1.below bw3
    replace h2 := h2.below bw3
    replace hb := below_trans hb bw3
    clear bw3
    go_upto_region 7 with fail
    go_cut [17, 18, 19] (fun s17 s18 s19 wx => ∃ Au cu Av cv, s17 = .slice Au l0.length cu ∧ s18 = .slice Av l0.length cv ∧ s19 = .int .i64 0 ∧ Ints wx Au (goL l0 (n + S)) ∧ Ints wx Av (gbL l0 l1 (n + S)) ∧ Below w3.heap.size w3 wx)
    case first =>
      rcases Int.lt_or_eq_of_le r1 with q | q
      · go_wp2_with fail
        refine (within_any m (10000 - n + 1) _ (by omega) (by omega)).mono ?_
        rintro e w' ⟨rfl, rfl⟩
        rw [← HS.out]
        go_wp2_with fail
        refine (prun_yes a0 a1 l0 l1 (goL l0 (n + S)) (gbL l0 l1 (n + S)) _ _ l0.length c0 c1 (n + S) _ HE' (Lib.hid rfl) (Lib.hid rfl) h0 h1 rfl rfl rfl).mono ?_
        rintro e w4 ⟨Au, cu, Av, cv, rfl, hu, hv, ku, kv, b4⟩
        go_wp2_with fail
        go_meet
        exact ⟨Au, cu, Av, cv, rfl, rfl, rfl, hu, hv, b4⟩
      · subst q
        go_wp2_with fail
        refine (within_any m 1 _ (by omega) (by omega)).mono ?_
        rintro e w' ⟨rfl, rfl⟩
        rw [show wi m 1 = S from HS.out.symm]
        go_wp2_with fail
        refine (prun_yes a0 a1 l0 l1 (goL l0 (10000 + S)) (gbL l0 l1 (10000 + S)) _ _ l0.length c0 c1 (10000 + S) _ HE' (Lib.hid rfl) (Lib.hid rfl) h0 h1 rfl rfl rfl).mono ?_
        rintro e w4 ⟨Au, cu, Av, cv, rfl, hu, hv, ku, kv, b4⟩
        go_wp2_with fail
        go_meet
        exact ⟨Au, cu, Av, cv, rfl, rfl, rfl, hu, hv, b4⟩
    case rest =>
    obtain ⟨Au, cu, Av, cv, rfl, rfl, rfl, hu, hv, b4⟩ := hcut
    replace h0 := h0.below b4
    replace h1 := h1.below b4
    replace h2 := h2.below b4
    replace hx := hx.below b4
    replace hy := hy.below b4
    replace hb := below_trans hb b4
    clear b4
    go_wp2_with fail
    refine (sum_yes' Ax (goL l0 n) O1 _ (l0.length + 1) _ _ vx HO1 hx LX.out.symm LX1.out).mono ?_
    rintro e w5 ⟨Ao, co, rfl, ho, ko, bw5⟩
    replace h0 := h0.below bw5
    replace h1 := h1.below bw5
    replace h2 := h2.below bw5
    replace hy := hy.below bw5
    replace hu := hu.below bw5
    replace hv := hv.below bw5
    replace hb := below_trans hb bw5
    clear bw5
    go_wp2_with fail
    refine (sum_yes' Ay (gbL l0 l1 n) O2 _ (l0.length + 1) _ _ vy HO2 hy LY.out.symm LY1.out).mono ?_
    rintro e w6 ⟨At, ct, rfl, ht, kt, bw6⟩
    replace h0 := h0.below bw6
    replace h1 := h1.below bw6
    replace h2 := h2.below bw6
    replace hu := hu.below bw6
    replace hv := hv.below bw6
    replace ho := ho.below bw6
    replace hb := below_trans hb bw6
    clear bw6
    go_wp2_with fail
    refine (sum_yes' Au (goL l0 (n + S)) O3 _ (l0.length + 1) _ _ vu HO3 hu LU.out.symm LU1.out).mono ?_
    rintro e w7 ⟨Ap, cp, rfl, hp, kp, bw7⟩
    replace h0 := h0.below bw7
    replace h1 := h1.below bw7
    replace h2 := h2.below bw7
    replace hv := hv.below bw7
    replace ho := ho.below bw7
    replace ht := ht.below bw7
    replace hb := below_trans hb bw7
    clear bw7
    go_wp2_with fail
    refine (sum_yes' Av (gbL l0 l1 (n + S)) O4 _ (l0.length + 1) _ _ vv HO4 hv LV.out.symm LV1.out).mono ?_
    rintro e w8 ⟨Aq, cq, rfl, hq, kq, bw8⟩
    replace h0 := h0.below bw8
    replace h1 := h1.below bw8
    replace h2 := h2.below bw8
    replace ho := ho.below bw8
    replace ht := ht.below bw8
    replace hp := hp.below bw8
    replace hb := below_trans hb bw8
    clear bw8
    go_wp2_with fail
    refine (kle_at Ao Ap O1 O3 _ _ _ _ _ ho hp LO1.out.symm LO3.out.symm).mono ?_
    rintro e w9 ⟨rfl, nw9, hww9⟩
    have bw9 := below_of_drewN hww9
    clear hww9
    replace h0 := h0.below bw9
    replace h1 := h1.below bw9
    replace h2 := h2.below bw9
    replace ht := ht.below bw9
    replace hq := hq.below bw9
    replace hb := below_trans hb bw9
    clear bw9
    rw [K1.out]
    go_wp2_with fail
    refine (kle_at At Aq O2 O4 _ _ _ _ _ ht hq LO2.out.symm LO4.out.symm).mono ?_
    rintro e w10 ⟨rfl, nw10, hww10⟩
    have bw10 := below_of_drewN hww10
    clear hww10
    replace h0 := h0.below bw10
    replace h1 := h1.below bw10
    replace h2 := h2.below bw10
    replace ht := ht.below bw10
    replace hb := below_trans hb bw10
    clear bw10
    rw [K2.out]
    go_wp2_with fail
    refine (trCheck_any a2 l2 c2 _ h2).mono ?_
    rintro e w' ⟨rfl, rfl⟩
    by_cases hC : trk l2 = 0
    · have v2 := trk_iff.1 hC
      have HC := Lib.hid hC
      clear hC
      by_cases hL : l2.length = l0.length
      · have L3 : l2.length ≤ l0.length := by omega
        have L4 : l0.length ≤ l2.length := by omega
        have e2 : ((l2.length : Int) != (l0.length : Int)) = false := by rw [hL]; simp
        have e3 : (l2.length != l0.length) = false := by simp [hL]
        obtain ⟨G, hG⟩ : ∃ G : Nat → Int, G = fun i => min (gt l0 i) (gt l2 i) := ⟨_, rfl⟩
        obtain ⟨C, hCC⟩ : ∃ C, C = tab l0.length G := ⟨_, rfl⟩
        have HG : Hid (∀ i, G i = min (gt l0 i) (gt l2 i)) := Lib.hid (fun i => by rw [hG])
        have CL : Hid (C.length = l0.length) := Lib.hid (by rw [hCC, length_tab])
        have cvC : ∀ i, i < l0.length → gt C i = min (gt l0 i) (gt l2 i) := fun i hi => by rw [hCC, gt_tab _ hi, HG.out]
        have vC : Tr C := by
          refine ⟨by rw [CL.out]; exact va.le, fun i hi => ?_, fun i hi => ?_⟩ <;> rw [CL.out] at hi <;> rw [cvC i hi]
          · have := va.lo i hi; have := v2.lo i (by omega); omega
          · have := va.hi i hi; omega
        have HEC : Hid (prE C l1 n = 0) := Lib.hid (pr_of vC vb r0 r1 (by rw [CL.out]; exact EL.out))
        have vw := tr_gb vC vb r0 r1 (show C.length = l1.length by rw [CL.out]; exact EL.out)
        have LW : Hid ((gbL C l1 n).length = l0.length) := Lib.hid (by rw [length_gbL, CL.out])
        have LW1 : Hid (l0.length + 1 = (gbL C l1 n).length + 1) := Lib.hid (by rw [LW.out])
        obtain ⟨O5, hO5⟩ : ∃ O, O = adL (gbL C l1 n) := ⟨_, rfl⟩
        have HO5 : Hid (adL (gbL C l1 n) = O5) := Lib.hid hO5.symm
        have LO5 : Hid (O5.length = l0.length + 1) := Lib.hid (by rw [hO5, length_adL, LW.out])
        have K3 : Hid (leK O2 O5 = true) := Lib.hid (by rw [← HO2.out, hO5]; exact gb_more va vC vb r0 (Int.le_refl _) r1 EL.out CL.out (fun t ht' => by rw [cvC t ht']; omega))
        have HCC := Lib.hid hCC
        clear hL hG hCC cvC hO5
        rw [HC.out]
        go_wp2_with fail
        refine (clone_all a0 l0 c0 _ h0 (by omega)).mono ?_
        rintro e w11 ⟨Ab, cb, rfl, ob, b11⟩
        rw [show l0.map (Value.int .i64) = (tab l0.length (upV G l0 0)).map (Value.int .i64) by rw [up_zero]] at ob
        go_wp2
        go_loopw [164] (fun i wr => ∃ k : Nat, k ≤ l0.length ∧ i = .int .i64 k ∧ wr.ownsRow w10.heap.size 3 1 (.slice Ab l0.length cb) l0.length ((tab l0.length (upV G l0 k)).map (Value.int .i64)) ∧ Below w10.heap.size w10 wr) (fun i _ => l0.length - (intOf i).toNat)
        case atStart => exact ⟨0, Nat.zero_le _, rfl, ob, b11⟩
        case round =>
          clear ob b11
          obtain ⟨k, hk, rfl, own, hbel⟩ := hrel
          by_cases hlt : k < l0.length
          · obtain ⟨g, cap, hv', hg, hgl⟩ := own.form (by omega)
            obtain ⟨rfl, rfl⟩ : Ab = some ⟨g, 0, none⟩ ∧ cb = cap := by injection hv' with a b c; exact ⟨a, c⟩
            clear hv'
            obtain ⟨b1, o1, z, e1, hc1, HZ⟩ := (h2.below hbel).at_ (k := k) (by omega)
            subst e1
            have hz := gt_of_get HZ.out
            obtain ⟨x, hx'⟩ : ∃ x, x = gt l0 k := ⟨_, rfl⟩
            have hc0 : wr.cell? ⟨g, k, none⟩ = some (.int .i64 x) := by
              rw [own.cellAt k (by omega), List.getElem?_map, get_tab _ hlt, upV, if_neg (by omega), hx']; rfl
            have hf0 := own.frozenAt k
            have HR2 : Hid (∀ u : Int, u = min x z → ((wr.setCell ⟨g, k, none⟩ (.int .i64 u)).drew).ownsRow w10.heap.size 3 1 (.slice (some ⟨g, 0, none⟩) l0.length cb) l0.length ((tab l0.length (upV G l0 (k + 1))).map (Value.int .i64))) := Lib.hid (fun u hu => by
              have q := (own.stored k (.int .i64 u)).1
              rw [show ((tab l0.length (upV G l0 k)).map (Value.int .i64)).set k (.int .i64 u) = (tab l0.length (upV G l0 (k + 1))).map (Value.int .i64) by rw [← up_set, List.map_set, hu, HG.out, hx', hz]] at q
              exact q)
            have HB2 : Hid (∀ u : Value, Below w10.heap.size w10 ((wr.setCell ⟨g, k, none⟩ u).drew)) := Lib.hid (fun u => by
              have q := hbel.setCell (p := ⟨g, k, none⟩) hg u
              exact ⟨q.os, q.tape, q.output, q.size, q.block⟩)
            have i1 : (k : Int) < (l0.length : Int) := by omega
            have i2 : (k : Int) < (l2.length : Int) := by omega
            clear hz hx'
            rcases Int.lt_trichotomy x z with q | q | q
            all_goals
              go_wp2
              go_region
              go_wp2
              go_roundw
              case rel => exact ⟨k + 1, by omega, by go_num, HR2.out _ (by omega), HB2.out _⟩
              case measure => simp [intOf]; omega
          · obtain rfl : k = l0.length := by omega
            rw [up_full, ← HCC.out, ← CL.out] at own
            have hB' := Ints.of_own own
            replace h1 := h1.below hbel
            replace ht := ht.below hbel
            replace hb := below_trans hb hbel
            clear own hbel
            go_wp2_with fail
            refine (prun_yes Ab a1 C l1 (goL C n) (gbL C l1 n) _ _ l0.length _ c1 n _ HEC (Lib.hid rfl) (Lib.hid rfl) hB' h1 CL.out.symm rfl CL.out.symm).mono ?_
            rintro e w12 ⟨As, cs, Az, cz, rfl, hs, hz, ks, kz, bw12⟩
            replace ht := ht.below bw12
            replace hb := below_trans hb bw12
            clear bw12
            go_wp2_with fail
            refine (sum_yes' Az (gbL C l1 n) O5 _ (l0.length + 1) _ _ vw HO5 hz LW.out.symm LW1.out).mono ?_
            rintro e w13 ⟨Ay, cy, rfl, hy, ky, bw13⟩
            replace ht := ht.below bw13
            replace hb := below_trans hb bw13
            clear bw13
            go_wp2_with fail
            refine (kle_at At Ay O2 O5 _ _ _ _ _ ht hy LO2.out.symm LO5.out.symm).mono ?_
            rintro e w14 ⟨rfl, nw14, hww14⟩
            have bw14 := below_of_drewN hww14
            clear hww14
            replace hb := below_trans hb bw14
            clear bw14
            rw [K3.out]
            go_wp2
            go_ret
            exact ⟨rfl, hb⟩
      · have e2 : ((l2.length : Int) != (l0.length : Int)) = true := by rw [bne_iff_ne]; omega
        have e3 : (l2.length != l0.length) = true := by simp [hL]
        clear hL
        rw [HC.out]
        go_wp2
        go_ret
        exact ⟨rfl, hb⟩
    · have e3 : (trk l2 != 0) = true := by simp [hC]
      clear hC
      go_wp2
      go_ret
      exact ⟨rfl, hb⟩
  · have e1 : (prE l0 l1 n != 0) = true := by simp [hE]
    go_enter Try.func7, Try.ntmps7
    go_wp2_with fail
    refine (prun_yes _ _ [2] [2] [2] [1] _ _ 1 _ _ 3 _ (Lib.hid (by decide)) (Lib.hid (by decide)) (Lib.hid (by decide)) (by exact Ints.litA _ _ _ _ _ rfl (by decide)) (by exact Ints.litB _ _ _ _ _ rfl (by decide)) rfl rfl rfl).mono ?_
    rintro e w1 ⟨Ax, cx, Ay, cy, rfl, hx, hy, kx, ky, bw1⟩
    replace bw1 := below_of2 bw1
    replace h0 := h0.below bw1
    replace h1 := h1.below bw1
    replace h2 := h2.below bw1
    replace hb := below_trans hb bw1
    clear bw1
    go_wp2_with fail
    refine (equal_at Ay _ [1] [1] _ _ _ _ _ (by exact Ints.alloc hy _) (by exact Ints.lit _ [1] _ _ rfl (by decide)) rfl rfl).mono ?_
    rintro e w2 ⟨rfl, nw2, hww2⟩
    have bw2 := below_of_drewN hww2
    clear hww2
    replace bw2 := below_of1 bw2
    replace h0 := h0.below bw2
    replace h1 := h1.below bw2
    replace h2 := h2.below bw2
    replace hb := below_trans hb bw2
    clear bw2
    rw [eqB_true rfl]
    clear hx hy kx ky
    go_wp2_with fail
    refine (prun_no a0 a1 l0 l1 c0 c1 n _ hE h0 h1).mono ?_
    rintro e w4 ⟨Ax, cx, Ay, cy, rfl, bx⟩
    replace hb := below_trans hb bx
    clear bx
    go_wp2
    go_ret
    exact ⟨rfl, hb⟩

end Go.Proofs.Ythngolnflogdnaa
