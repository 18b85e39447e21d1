
/-
  The walk of the law WorldBytes over what package world owes.
-/
import Derived.Test.YtlaandbaaepamaaWldD
namespace Go.Proofs.Ytlaandbaaepamaa
set_option linter.all false
open Go.RowKit Go.Shelf Go.Lib

variable {Rep : World → Value → (Nat → Prop) → WSt → Prop}
set_option maxRecDepth 100000 in
set_option maxHeartbeats 3200000 in
theorem v_WorldBytes (K : WldC Rep) (n1 n2 n3 : Int) (a3 : Option Addr) (c3 : Nat) (l3 : List Lw) (w : World) (_1 : (Lit.int .i64 n1).wf = true) (_2 : (Lit.int .i64 n2).wf = true) (_3 : (Lit.int .i64 n3).wf = true) (h3 : Lls w a3 l3) (k3 : l3.length ≤ c3) :
    Calls Try.prog 4 #[.int .i64 n1, .int .i64 n2, .int .i64 n3, .slice a3 l3.length c3] w fun e w' => e = .returned (.bool true) ∧ Below w.heap.size w w' := by
  clear _1 _2 _3
  have h3l := h3.1
  obtain ⟨A, hA⟩ := Int.eq_ofNat_of_zero_le (wi_nonneg n1 8 (by omega))
  have hA8 : A < 8 := by have := wi_lt n1 8 (by omega); omega
  obtain ⟨R, hR⟩ := Int.eq_ofNat_of_zero_le (wi_nonneg n2 50 (by omega))
  have hR1 : R < 50 := by have := wi_lt n2 50 (by omega); omega
  obtain ⟨U, hU⟩ := Int.eq_ofNat_of_zero_le (wi_nonneg n3 20 (by omega))
  have hU1 : U < 20 := by have := wi_lt n3 20 (by omega); omega
  have HA := Lib.hid hA
  have HR := Lib.hid hR
  have HU := Lib.hid hU
  have hnew : NewOk ((A + 1 : Nat) : Int) (R : Int) (1 + (U : Int)) := ⟨by omega, by omega, by omega, by omega, by omega, by omega⟩
  have HNW := Lib.hid hnew
  obtain ⟨hE, hp, hln, hsm⟩ := start_three hnew
  have HE := Lib.hid hE
  obtain ⟨s0, hs0⟩ : ∃ s, s = apW 3 (newW (A + 1) (R : Int) (1 + (U : Int))) := ⟨_, rfl⟩
  rw [← hs0] at hp hln hsm
  have HS0 := Lib.hid hs0
  have HSM := Lib.hid hsm
  have HLN : Hid ((newW (A + 1) (R : Int) (1 + (U : Int))).d.l.length = A + 1) := Lib.hid (by simp [newW])
  have FR0 : Frm s0 (R : Int) (1 + (U : Int)) (A + 1) := ⟨by rw [hs0]; exact (ap_unit _ _).2, by rw [hs0]; exact (ap_unit _ _).1, hln⟩
  have e3 : IntKind.i64.wrap (3 * (1 + (A : Int))) = 3 * (1 + (A : Int)) := IntWalk.i64_in _ ⟨by omega, by omega⟩
  have e4 : (((A + 1 : Nat) : Int) * 3 != 3 * (1 + (A : Int))) = false := by rw [bne_eq_false_iff_eq]; omega
  have e5 : (((A : Int) + 1) != (1 + (A : Int))) = false := by rw [bne_eq_false_iff_eq]; omega
  have e6 : ((((A : Int) + 1) * 3) != (3 * (1 + (A : Int)))) = false := by rw [bne_eq_false_iff_eq]; omega
  clear hA hR hU hnew hE hp hs0 hln hsm
  go_enter Try.func4, Try.ntmps4
  go_wp2_with fail
  refine (within_n n1 8 A _ (by omega) (by omega) HA).mono ?_
  rintro e w' ⟨rfl, rfl⟩
  go_wp2_with fail
  refine (within_n n2 50 R _ (by omega) (by omega) HR).mono ?_
  rintro e w' ⟨rfl, rfl⟩
  go_wp2_with fail
  refine (within_n n3 20 U _ (by omega) (by omega) HU).mono ?_
  rintro e w' ⟨rfl, rfl⟩
  go_wp2_with fail
  refine (K.new_at (1 + (A : Int)) (R : Int) (1 + (U : Int)) (A + 1) _ (by omega) HNW.out).mono ?_
  rintro e w1 ⟨a, S, rfl, hR1', hS, b1⟩
  have O1 : Own1 Rep w w1 (.pointer (some a)) (newW (A + 1) (R : Int) (1 + (U : Int))) := ⟨⟨S, hR1', hS⟩, b1⟩
  clear hR1' hS b1
  go_wp2_with fail
  refine (K.peers1 (A + 1) w _ _ _ O1 HLN.out).mono ?_
  rintro e w2 ⟨B, cB, rfl, _, _, O2⟩
  clear O1
  go_wp2_with fail
  refine (K.append1 3 0 w _ _ _ O2 HE).mono ?_
  rintro e w3 ⟨rfl, O3⟩
  rw [← HS0.out] at O3
  clear O2
  go_wp2_with fail
  refine (lags_any K w _ _ s0 O3).mono ?_
  rintro e w4 ⟨rfl, O4⟩
  rw [HSM.out]
  clear O3
  go_wp2
  go_loopw [60] (fun i wr => ∃ (k : Nat) (s : WSt), k ≤ l3.length ∧ i = .int .i64 k ∧ Own1 Rep w wr (.pointer (some a)) s ∧ Frm s (R : Int) (1 + (U : Int)) (A + 1)) (fun i _ => l3.length - (intOf i).toNat)
  case atStart => exact ⟨0, s0, Nat.zero_le _, rfl, O4, FR0⟩
  case round =>
    clear O4 FR0 HS0 HSM HE HNW HLN e3 e4 e5 e6
    obtain ⟨k, s, hk, rfl, O, FR⟩ := hrel
    by_cases hlt : k < l3.length
    · obtain ⟨b', o', ⟨fa, fc, fz⟩, rfl, hbl, c0, iz, kz, HF⟩ := h3.get hlt
      dsimp only at c0 iz kz
      have c0' : wr.cell? ⟨b', o' + k, none⟩ = some (.slice fa fz.length fc) := (O.b.cell (p := ⟨b', o' + k, none⟩) hbl).trans c0
      have i1 : (k : Int) < (l3.length : Int) := by omega
      obtain ⟨L, hL⟩ : ∃ L, L = s.d.sum := ⟨_, rfl⟩
      have L0 : 0 ≤ L := by rw [hL]; exact (O.ok K).ok.sum.1
      have L1 : L ≤ 8000000 := by
        have := needs_bd (O.ok K) s.d.l.length (Nat.le_refl _)
        have h2 := FR.len
        rw [hL, Wd.sum]; omega
      have HL := Lib.hid hL
      clear hL
      go_wp2_with fail
      refine (lags_any K w _ _ s O).mono ?_
      rintro e w5 ⟨rfl, O5⟩
      rw [← HL.out]
      clear O c0 c0'
      obtain ⟨T, hT⟩ : ∃ T, T = (decide (0 < fz.length) && (wi (gt fz 0) 3 == 1)) := ⟨_, rfl⟩
      have HT := Lib.hid hT
      clear hT
      have iz5 := iz.below O5.b
      go_upto_region 9 with fail
      go_cut [75] (fun x wx => x = .bool T ∧ w5 = wx)
      case first =>
        by_cases hz : fz.length = 0
        · have HT0 : Hid (T = false) := Lib.hid (by rw [HT.out, decide_eq_false (by omega)]; rfl)
          have d0 : ¬ (0 : Int) < (fz.length : Int) := by omega
          have d1 : decide (0 < fz.length) = false := decide_eq_false (by omega)
          have d2 : decide ((0 : Int) < (fz.length : Int)) = false := decide_eq_false (by omega)
          clear HT hz
          go_wp2_with fail
          all_goals go_meet
          all_goals exact ⟨by rw [HT0.out], rfl⟩
        · obtain ⟨b0, o0, x, e0, hc0, HX⟩ := iz5.at_ (k := 0) (by omega)
          have hg0 := gt_of_get HX.out
          have d0 : (0 : Int) < (fz.length : Int) := by omega
          have d1 : decide (0 < fz.length) = true := decide_eq_true (by omega)
          have d2 : decide ((0 : Int) < (fz.length : Int)) = true := decide_eq_true (by omega)
          have HT0 : Hid (T = (wi x 3 == 1)) := Lib.hid (by rw [HT.out, d1, hg0]; rfl)
          simp only [Nat.add_zero] at hc0
          clear HT hz hg0
          subst e0
          go_wp2_with fail
          refine (within_any x 3 _ (by omega) (by omega)).mono ?_
          rintro e wv ⟨rfl, rfl⟩
          go_wp2_with fail
          all_goals go_meet
          all_goals exact ⟨by rw [HT0.out], rfl⟩
      case rest =>
      obtain ⟨rfl, rfl⟩ := hcut
      go_upto_if 75 with fail
      go_cut [] (fun wx => ∃ s' : WSt, Own1 Rep w wx (.pointer (some a)) s' ∧ Frm s' (R : Int) (1 + (U : Int)) (A + 1))
      case first =>
        cases T with
        | true =>
          obtain ⟨t', m, ht⟩ := ex_tick (O5.ok K)
          have hti := ht.is (O5.ok K).u0 (O5.ok K).ok
          have FR6 := FR.same (tick_same (O5.ok K) ht)
          have hm := hti.1
          have hs := hti.2
          rw [FR.rate, ← HL.out] at hm
          rw [← HL.out] at hs
          have HTK := Lib.hid ht
          have HSS : Hid ((tickW t' s).d.sum = L - (m : Int)) := Lib.hid hs
          have s1 : IntKind.i64.wrap (L - (m : Int)) = L - (m : Int) := IntWalk.i64_in _ ⟨by omega, by omega⟩
          clear ht hti hs HT
          go_wp2_with fail
          refine (K.tick1 w _ _ s t' m O5 HTK.out).mono ?_
          rintro e w6 ⟨rfl, O6⟩
          clear O5 iz5 FR HTK
          have hmm : ((R : Int) < L ∧ m = R) ∨ ((R : Int) = L ∧ m = R) ∨ (L < (R : Int) ∧ (m : Int) = L) := by omega
          clear hm
          rcases hmm with ⟨q, e⟩ | ⟨q, e⟩ | ⟨q, e⟩
          · subst e
            go_wp2_with fail
            refine (lags_any K w _ _ (tickW t' s) O6).mono ?_
            rintro e w7 ⟨rfl, O7⟩
            rw [HSS.out]
            go_wp2_with fail
            all_goals go_meet
            all_goals exact ⟨_, O7, FR6⟩
          · subst e
            subst q
            go_wp2_with fail
            refine (lags_any K w _ _ (tickW t' s) O6).mono ?_
            rintro e w7 ⟨rfl, O7⟩
            rw [HSS.out]
            go_wp2_with fail
            all_goals go_meet
            all_goals exact ⟨_, O7, FR6⟩
          · subst e
            go_wp2_with fail
            refine (lags_any K w _ _ (tickW t' s) O6).mono ?_
            rintro e w7 ⟨rfl, O7⟩
            rw [HSS.out]
            go_wp2_with fail
            all_goals go_meet
            all_goals exact ⟨_, O7, FR6⟩
        | false =>
          go_wp2_with fail
          refine (act_at K (1 + (A : Int)) (A + 1) fa _ fc fz w _ _ s O5 iz5 FR.len (by omega) rfl).mono ?_
          rintro e w6 ⟨s', v, hact, rfl, O6⟩
          have FR6 := FR.same (hact.same (O5.ok K))
          have iz6 := iz.below O6.b
          have hok := O5.ok K
          have hfl := FR.len
          clear O5 iz5 FR
          rcases hact with ⟨hz, rfl, rfl⟩ | ⟨hz, q, rfl, rfl⟩ | ⟨hz, q, _⟩ | ⟨hz, q, i, hi, rfl, rfl⟩
          · have d0 : ¬ (0 : Int) < (fz.length : Int) := by omega
            have d1 : decide (0 < fz.length) = false := decide_eq_false (by omega)
            have d2 : decide ((0 : Int) < (fz.length : Int)) = false := decide_eq_false (by omega)
            clear HT hz hok hfl
            go_wp2_with fail
            all_goals go_meet
            all_goals exact ⟨_, O6, FR6⟩
          · obtain ⟨b0, o0, x, e0, hc0, HX⟩ := iz6.at_ (k := 0) hz
            have hg0 := gt_of_get HX.out
            rw [hg0] at q
            have HQ := Lib.hid q
            have d0 : (0 : Int) < (fz.length : Int) := by omega
            have d1 : decide (0 < fz.length) = true := decide_eq_true hz
            have d2 : decide ((0 : Int) < (fz.length : Int)) = true := decide_eq_true (by omega)
            simp only [Nat.add_zero] at hc0
            clear HT hg0 q hok hfl
            subst e0
            go_wp2_with fail
            refine (within_any x 3 _ (by omega) (by omega)).mono ?_
            rintro e wv ⟨rfl, rfl⟩
            rw [HQ.out]
            go_wp2_with fail
            all_goals go_meet
            all_goals exact ⟨_, O6, FR6⟩
          · have := HT.out
            rw [decide_eq_true hz, q] at this
            exact absurd this (by decide)
          · have hiN : i < s.d.l.length := by
              have := wi_lt (kV fz) ((A + 1 : Nat) : Int) (by omega)
              omega
            have HSS : Hid ((crashW i s).d.sum = L + (pr s.d.l i).part) := Lib.hid (by rw [crash_sum hok hiN, HL.out])
            have p0 := (hok.ok.ok i hiN).part0
            have p1 := (hok.ok.ok i hiN).less
            have p2 := hok.u1
            obtain ⟨v, hv⟩ : ∃ v, v = (pr s.d.l i).part := ⟨_, rfl⟩
            rw [← hv] at HSS p0 p1
            rw [← hv]
            have s1 : IntKind.i64.wrap (L + v) = L + v := IntWalk.i64_in _ ⟨by omega, by omega⟩
            clear hv hi hiN
            obtain ⟨b0, o0, x, e0, hc0, HX⟩ := iz6.at_ (k := 0) hz
            have hg0 := gt_of_get HX.out
            rw [hg0] at q
            have HQ := Lib.hid q
            have d0 : (0 : Int) < (fz.length : Int) := by omega
            have d1 : decide (0 < fz.length) = true := decide_eq_true hz
            have d2 : decide ((0 : Int) < (fz.length : Int)) = true := decide_eq_true (by omega)
            simp only [Nat.add_zero] at hc0
            clear HT hg0 q hok hfl
            subst e0
            go_wp2_with fail
            refine (within_any x 3 _ (by omega) (by omega)).mono ?_
            rintro e wv ⟨rfl, rfl⟩
            rw [HQ.out]
            go_wp2_with fail
            refine (lags_any K w _ _ (crashW i s) O6).mono ?_
            rintro e w7 ⟨rfl, O7⟩
            rw [HSS.out]
            go_wp2_with fail
            all_goals go_meet
            all_goals exact ⟨_, O7, FR6⟩
      case rest =>
      obtain ⟨s', O6, FR6⟩ := hcut
      have HL6 := Lib.hid FR6.len
      have HOK : Hid (∀ i, i < A + 1 → PrOk (1 + (U : Int)) (pr s'.d.l i)) := Lib.hid (fun i hi => by have := (O6.ok K).ok.ok i (by rw [FR6.len]; exact hi); rw [FR6.unit] at this; exact this)
      clear O5 iz5 FR HL
      go_wp2_with fail
      refine (K.peers1 (A + 1) w _ _ s' O6 HL6.out).mono ?_
      rintro e w6 ⟨C, cC, rfl, hP, b6, O7⟩
      clear O6 b6
      go_wp2
      go_loopw [116] (fun i wr => ∃ j : Nat, j ≤ A + 1 ∧ i = .int .i64 j ∧ Below w6.heap.size w6 wr) (fun i _ => A + 1 - (intOf i).toNat)
      case atStart => exact ⟨0, Nat.zero_le _, rfl, Below.refl _ _⟩
      case round =>
        obtain ⟨j, hj, rfl, hbel⟩ := hrel
        by_cases hlt2 : j < A + 1
        · obtain ⟨bb', off', rfl, hbl', g0, g1, g2⟩ := (hP.below hbel).get (k := j) (by rw [HL6.out]; exact hlt2)
          have ok := HOK.out j hlt2
          obtain ⟨x, hx⟩ : ∃ x, x = (pr s'.d.l j).lag := ⟨_, rfl⟩
          obtain ⟨y, hy⟩ : ∃ y, y = (pr s'.d.l j).part := ⟨_, rfl⟩
          obtain ⟨z, hz⟩ : ∃ z, z = (pr s'.d.l j).done := ⟨_, rfl⟩
          obtain ⟨o1, o2, o3, o4, o5⟩ := ok
          rw [← hx] at g0 o1 o2 o5
          rw [← hy] at g1 o3 o4 o5
          rw [← hz] at g2 o1
          obtain rfl : z = (x == 0) := by
            by_cases c : x = 0
            · rw [o1.2 c, c]; rfl
            · cases z with
              | false => rw [beq_eq_false_iff_ne.2 c]
              | true => exact absurd (o1.1 rfl) c
          have zz : ((x == 0) != (x == 0)) = false := by simp
          have d1 : decide (y < 0) = false := decide_eq_false (by omega)
          have d2 : decide (1 + (U : Int) ≤ y) = false := decide_eq_false (by omega)
          have d4 : decide (x < 0) = false := decide_eq_false (by omega)
          have i1 : (j : Int) < (A : Int) + 1 := by omega
          have hb2 := hbel.alloc hbel.size (.cells #[.int .i64 x, .int .i64 y, .bool (x == 0)] 34)
          clear hx hy hz
          by_cases c : 0 < y
          · have d3 : decide (x ≤ y) = false := decide_eq_false (by have := o5 c; omega)
            have d5 : decide (0 < y) = true := decide_eq_true c
            have o6 := o5 c
            clear o1 o5
            go_wp2
            go_roundw
            case rel => exact ⟨j + 1, by omega, by go_num, hb2⟩
            case measure => simp [intOf]; omega
          · have d5 : decide (0 < y) = false := decide_eq_false c
            clear o1 o5
            go_wp2
            go_roundw
            case rel => exact ⟨j + 1, by omega, by go_num, hb2⟩
            case measure => simp [intOf]; omega
        · obtain rfl : j = A + 1 := by omega
          have O8 := O7.keep K hbel
          clear O7 hP hbel
          go_wp2
          go_roundw
          case rel => exact ⟨k + 1, s', by omega, by go_num, O8, FR6⟩
          case measure => simp [intOf]; omega
    · obtain rfl : k = l3.length := by omega
      have hb := O.b
      clear O
      go_wp2
      go_ret
      exact ⟨rfl, hb⟩

end Go.Proofs.Ytlaandbaaepamaa
