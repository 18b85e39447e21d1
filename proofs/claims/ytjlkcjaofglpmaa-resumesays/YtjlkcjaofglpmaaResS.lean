
/-
  The walk of the law ResumeSays over the contracts of package resume.
-/
import Derived.Test.YtjlkcjaofglpmaaResC
import Derived.Test.YtjlkcjaofglpmaaShareP
import Derived.Test.YtjlkcjaofglpmaaTraceB
import Derived.Deep.DeepCutAuto
namespace Go.Proofs.Ytjlkcjaofglpmaa
set_option linter.all false
open Go.RowKit Go.Shelf Go.Lib


def twoE (k : Int) : Int := if k < 0 ∨ 200 < k then 1 else 0
/-- What Bound answers, as the law asks it. -/
theorem bo_says {s u r : Int} (ok : RsOk s u r) (k : Int) : ((k < 0 ∨ 200 < k) ∧ boE s u r k = 1 ∧ boV s u r k = 0 ∧ twoE k = 1) ∨ (0 ≤ k ∧ k ≤ 200 ∧ s = 0 ∧ boE s u r k = 0 ∧ boV s u r k = 0 ∧ twoE k = 0) ∨ (0 ≤ k ∧ k ≤ 200 ∧ 0 < s ∧ r = 0 ∧ boE s u r k = 5 ∧ boV s u r k = 0 ∧ twoE k = 0) ∨ (0 ≤ k ∧ k ≤ 200 ∧ 0 < s ∧ 0 < r ∧ boE s u r k = 0 ∧ 0 ≤ boV s u r k ∧ boV s u r k ≤ 201000000 ∧ (boV s u r k - 1) * r < s + k * (u - 1) ∧ s + k * (u - 1) ≤ boV s u r k * r ∧ twoE k = 0) := by
  have nb := rs_iff.2 ok
  obtain ⟨s0, s1, u0, u1, r0, r1⟩ := ok
  by_cases c : k < 0 ∨ 200 < k
  · have hE : boE s u r k = 1 := by rw [boE, if_pos (c.elim (fun c => .inr (.inl c)) (fun c => .inr (.inr c)))]
    exact .inl ⟨c, hE, by rw [boV, if_neg (by rw [hE]; rintro ⟨h, _⟩; exact absurd h (by decide))], by rw [twoE, if_pos c]⟩
  · have ht : twoE k = 0 := by rw [twoE, if_neg c]
    have nb' : ¬ (BadR s u r ∨ k < 0 ∨ 200 < k) := fun h => h.elim nb c
    have hn := nd_bd s0 s1 u0 u1 (show 0 ≤ k by omega) (show k ≤ 200 by omega)
    right
    by_cases z : s = 0
    · have h0 := hn.2.2.2 z
      have hE : boE s u r k = 0 := by rw [boE, if_neg nb', if_pos h0]
      exact .inl ⟨by omega, by omega, z, hE, by rw [boV, if_neg (by rintro ⟨_, h⟩; exact h h0)], ht⟩
    · have h0 : ¬ ndV s u k = 0 := fun h => z (hn.2.2.1 h)
      right
      by_cases q : r = 0
      · have hE : boE s u r k = 5 := by rw [boE, if_neg nb', if_neg h0, if_pos q]
        exact .inl ⟨by omega, by omega, by omega, q, hE, by rw [boV, if_neg (by rw [hE]; rintro ⟨h, _⟩; exact absurd h (by decide))], ht⟩
      · have hE : boE s u r k = 0 := by rw [boE, if_neg nb', if_neg h0, if_neg q]
        have hd : ndV s u k = s + k * (u - 1) := by rw [ndV, if_neg z]
        have hV : boV s u r k = (ndV s u k - 1) / r + 1 := by rw [boV, if_pos ⟨hE, h0⟩]
        have hs := div_slot (p := ndV s u k - 1) (show 0 < r by omega)
        have hq := Int.ediv_nonneg (show 0 ≤ ndV s u k - 1 by omega) (show 0 ≤ r by omega)
        have hl := Int.ediv_le_self (b := r) (show 0 ≤ ndV s u k - 1 by omega)
        refine .inr ⟨by omega, by omega, by omega, by omega, hE, by omega, by omega, ?_, ?_, ht⟩
        · rw [← hd, hV, show (ndV s u k - 1) / r + 1 - 1 = (ndV s u k - 1) / r by omega]; omega
        · rw [← hd, hV]; omega
/-- A slot: what is whole, and the part; what comes, what a crash leaves. -/
theorem re_part {s u r R W p p1 p2 q : Int} {b : Bool} (u0 : 1 ≤ u) (hR : W + p = R) (hq : W = q * u) (h1 : p1 = min (p + r) (s - W)) (h2 : p2 = if b = true ∧ W + p1 < s then p1 / u * u else p1) : W + p2 = keepV s u (min s (R + r)) b := by
  have e : min s (R + r) = W + p1 := by omega
  rw [e, keepV, h2]
  by_cases c : b = true ∧ W + p1 < s
  · rw [if_pos c, if_pos c, hq, Int.add_comm (q * u) p1, Int.add_mul_ediv_right _ _ (show u ≠ 0 by omega), Int.add_mul]
    omega
  · rw [if_neg c, if_neg c]

theorem row_formR {w : World} {base n : Nat} {e : TypeId} {v : Value} {xs : List Value} (h : w.ownsRow base e 1 v n xs) : ∃ A c, v = .slice A n c := by
  rcases h.2 with ⟨rfl, h0⟩ | ⟨g, cap, cur, rfl, _⟩
  · rw [h0]; exact ⟨none, 0, rfl⟩
  · exact ⟨_, _, rfl⟩
set_option maxRecDepth 100000 in
set_option maxHeartbeats 6400000 in
theorem v_ResumeSays (K : ResC) (n1 n2 n3 : Int) (a3 : Option Addr) (c3 : Nat) (l3 : List Bool) (n4 : Int) (w : World)
    (_1 : (Lit.int .i64 n1).wf = true) (_2 : (Lit.int .i64 n2).wf = true) (_3 : (Lit.int .i64 n3).wf = true) (h3 : Bls w a3 l3) (_k3 : l3.length ≤ c3) (_4 : (Lit.int .i64 n4).wf = true) :
    Calls Try.prog 4 #[.int .i64 n1, .int .i64 n2, .int .i64 n3, .slice a3 l3.length c3, .int .i64 n4] w fun e w' => e = .returned (.bool true) ∧ Below w.heap.size w w' := by
  have hb : Below w.heap.size w w := Below.refl _ _
  have hlen := h3.1
  clear _1 _2 _3 _k3 _4
  by_cases hbad : BadR n1 n2 n3
  · have hE : ruE n1 n2 n3 l3.length = 1 := by rw [ruE, if_pos hbad]
    have hB : boE n1 n2 n3 n4 = 1 := by rw [boE, if_pos (.inl hbad)]
    have HE : Hid (¬ ruE n1 n2 n3 l3.length = 0) := Lib.hid (by rw [hE]; decide)
    have HV := Lib.hid hE
    have HB1 := Lib.hid hB
    have HB0 : Hid (boV n1 n2 n3 n4 = 0) := Lib.hid (by rw [boV, if_neg]; rw [hB]; rintro ⟨h, _⟩; exact absurd h (by decide))
    clear hE hB
    unfold BadR at hbad
    by_cases q1 : n1 < 0
    · clear hbad
      go_enter Try.func4, Try.ntmps4
      go_wp2_with fail
      refine (K.run_no a3 l3 _ c3 n1 n2 n3 _ h3 HE rfl).mono ?_
      rintro e w1 ⟨⟨B, d, rfl⟩, b1⟩
      rw [HV.out]
      replace hb := below_trans hb b1
      clear b1
      go_wp2_with fail
      refine (K.bound_at n1 n2 n3 n4 0 1 _ HB0 HB1).mono ?_
      rintro e w2 ⟨rfl, bw2⟩
      replace hb := below_trans hb bw2
      clear bw2
      go_wp2_with fail
      refine (equal_at B none [] [] _ _ _ _ _ (Ints.nil_ _ _) (Ints.nil_ _ _) rfl rfl).mono ?_
      rintro e w3 ⟨rfl, nw3, hww3⟩
      have bw3 := below_of_drewN hww3
      clear hww3
      replace hb := below_trans hb bw3
      clear bw3
      rw [eqB_true rfl]
      go_wp2
      go_ret
      exact ⟨rfl, hb⟩
    · by_cases q2 : 1000000 < n1
      · clear hbad
        go_enter Try.func4, Try.ntmps4
        go_wp2_with fail
        refine (K.run_no a3 l3 _ c3 n1 n2 n3 _ h3 HE rfl).mono ?_
        rintro e w1 ⟨⟨B, d, rfl⟩, b1⟩
        rw [HV.out]
        replace hb := below_trans hb b1
        clear b1
        go_wp2_with fail
        refine (K.bound_at n1 n2 n3 n4 0 1 _ HB0 HB1).mono ?_
        rintro e w2 ⟨rfl, bw2⟩
        replace hb := below_trans hb bw2
        clear bw2
        go_wp2_with fail
        refine (equal_at B none [] [] _ _ _ _ _ (Ints.nil_ _ _) (Ints.nil_ _ _) rfl rfl).mono ?_
        rintro e w3 ⟨rfl, nw3, hww3⟩
        have bw3 := below_of_drewN hww3
        clear hww3
        replace hb := below_trans hb bw3
        clear bw3
        rw [eqB_true rfl]
        go_wp2
        go_ret
        exact ⟨rfl, hb⟩
      · by_cases q3 : n2 < 1
        · clear hbad
          go_enter Try.func4, Try.ntmps4
          go_wp2_with fail
          refine (K.run_no a3 l3 _ c3 n1 n2 n3 _ h3 HE rfl).mono ?_
          rintro e w1 ⟨⟨B, d, rfl⟩, b1⟩
          rw [HV.out]
          replace hb := below_trans hb b1
          clear b1
          go_wp2_with fail
          refine (K.bound_at n1 n2 n3 n4 0 1 _ HB0 HB1).mono ?_
          rintro e w2 ⟨rfl, bw2⟩
          replace hb := below_trans hb bw2
          clear bw2
          go_wp2_with fail
          refine (equal_at B none [] [] _ _ _ _ _ (Ints.nil_ _ _) (Ints.nil_ _ _) rfl rfl).mono ?_
          rintro e w3 ⟨rfl, nw3, hww3⟩
          have bw3 := below_of_drewN hww3
          clear hww3
          replace hb := below_trans hb bw3
          clear bw3
          rw [eqB_true rfl]
          go_wp2
          go_ret
          exact ⟨rfl, hb⟩
        · by_cases q4 : 1000000 < n2
          · clear hbad
            go_enter Try.func4, Try.ntmps4
            go_wp2_with fail
            refine (K.run_no a3 l3 _ c3 n1 n2 n3 _ h3 HE rfl).mono ?_
            rintro e w1 ⟨⟨B, d, rfl⟩, b1⟩
            rw [HV.out]
            replace hb := below_trans hb b1
            clear b1
            go_wp2_with fail
            refine (K.bound_at n1 n2 n3 n4 0 1 _ HB0 HB1).mono ?_
            rintro e w2 ⟨rfl, bw2⟩
            replace hb := below_trans hb bw2
            clear bw2
            go_wp2_with fail
            refine (equal_at B none [] [] _ _ _ _ _ (Ints.nil_ _ _) (Ints.nil_ _ _) rfl rfl).mono ?_
            rintro e w3 ⟨rfl, nw3, hww3⟩
            have bw3 := below_of_drewN hww3
            clear hww3
            replace hb := below_trans hb bw3
            clear bw3
            rw [eqB_true rfl]
            go_wp2
            go_ret
            exact ⟨rfl, hb⟩
          · by_cases q5 : n3 < 0
            · clear hbad
              go_enter Try.func4, Try.ntmps4
              go_wp2_with fail
              refine (K.run_no a3 l3 _ c3 n1 n2 n3 _ h3 HE rfl).mono ?_
              rintro e w1 ⟨⟨B, d, rfl⟩, b1⟩
              rw [HV.out]
              replace hb := below_trans hb b1
              clear b1
              go_wp2_with fail
              refine (K.bound_at n1 n2 n3 n4 0 1 _ HB0 HB1).mono ?_
              rintro e w2 ⟨rfl, bw2⟩
              replace hb := below_trans hb bw2
              clear bw2
              go_wp2_with fail
              refine (equal_at B none [] [] _ _ _ _ _ (Ints.nil_ _ _) (Ints.nil_ _ _) rfl rfl).mono ?_
              rintro e w3 ⟨rfl, nw3, hww3⟩
              have bw3 := below_of_drewN hww3
              clear hww3
              replace hb := below_trans hb bw3
              clear bw3
              rw [eqB_true rfl]
              go_wp2
              go_ret
              exact ⟨rfl, hb⟩
            · have q6 : 10000 < n3 := by omega
              have d6 : decide (n3 ≤ 10000) = false := decide_eq_false (by omega)
              clear hbad
              go_enter Try.func4, Try.ntmps4
              go_wp2_with fail
              refine (K.run_no a3 l3 _ c3 n1 n2 n3 _ h3 HE rfl).mono ?_
              rintro e w1 ⟨⟨B, d, rfl⟩, b1⟩
              rw [HV.out]
              replace hb := below_trans hb b1
              clear b1
              go_wp2_with fail
              refine (K.bound_at n1 n2 n3 n4 0 1 _ HB0 HB1).mono ?_
              rintro e w2 ⟨rfl, bw2⟩
              replace hb := below_trans hb bw2
              clear bw2
              go_wp2_with fail
              refine (equal_at B none [] [] _ _ _ _ _ (Ints.nil_ _ _) (Ints.nil_ _ _) rfl rfl).mono ?_
              rintro e w3 ⟨rfl, nw3, hww3⟩
              have bw3 := below_of_drewN hww3
              clear hww3
              replace hb := below_trans hb bw3
              clear bw3
              rw [eqB_true rfl]
              go_wp2
              go_ret
              exact ⟨rfl, hb⟩
  · have ok := rs_iff.1 hbad
    have hT := bo_says ok n4
    obtain ⟨s0, s1', u0, u1, r0, r1⟩ := ok
    obtain ⟨V, hV⟩ : ∃ V, boV n1 n2 n3 n4 = V := ⟨_, rfl⟩
    obtain ⟨E, hE⟩ : ∃ E, boE n1 n2 n3 n4 = E := ⟨_, rfl⟩
    obtain ⟨T, hTV⟩ : ∃ T, T = twoE n4 := ⟨_, rfl⟩
    rw [hV, hE, ← hTV] at hT
    have HT := Lib.hid hT
    have HTV := Lib.hid hTV
    obtain ⟨BK, hBK⟩ : ∃ BK, BK = decide (n4 < 0 ∨ 200 < n4) := ⟨_, rfl⟩
    have HBK := Lib.hid hBK
    clear hBK
    have HV := Lib.hid hV
    have HE := Lib.hid hE
    have d6 : decide (n3 ≤ 10000) = true := decide_eq_true (by omega)
    clear hT hTV hV hE
    by_cases hl : 200 < l3.length
    · have hR : ruE n1 n2 n3 l3.length = 2 := by rw [ruE, if_neg hbad, if_pos hl]
      have HR0 : Hid (¬ ruE n1 n2 n3 l3.length = 0) := Lib.hid (by rw [hR]; decide)
      have HR := Lib.hid hR
      have i1 : (200 : Int) < (l3.length : Int) := by omega
      clear hR hbad hl
      go_enter Try.func4, Try.ntmps4
      go_wp2_with fail
      refine (K.run_no a3 l3 _ c3 n1 n2 n3 _ h3 HR0 rfl).mono ?_
      rintro e w1 ⟨⟨B, d, rfl⟩, b1⟩
      rw [HR.out]
      replace hb := below_trans hb b1
      clear b1
      go_wp2_with fail
      refine (K.bound_at n1 n2 n3 n4 V E _ HV HE).mono ?_
      rintro e w2 ⟨rfl, bw2⟩
      replace hb := below_trans hb bw2
      clear bw2
      go_upto_region 9 with fail
      go_cut [80] (fun x wx => x = .bool BK ∧ w2 = wx)
      case first =>
        by_cases k0 : n4 < 0
        · have d7 : decide (n4 < 0) = true := decide_eq_true k0
          go_wp2_with fail
          all_goals go_meet
          all_goals exact ⟨by rw [HBK.out, decide_eq_true (show n4 < 0 ∨ 200 < n4 by omega)], rfl⟩
        · by_cases k1 : 200 < n4
          · have d7 : decide (200 < n4) = true := decide_eq_true k1
            have d8 : decide (n4 < 0) = false := decide_eq_false k0
            go_wp2_with fail
            all_goals go_meet
            all_goals exact ⟨by rw [HBK.out, decide_eq_true (show n4 < 0 ∨ 200 < n4 by omega)], rfl⟩
          · have d7 : decide (200 < n4) = false := decide_eq_false k1
            have d8 : decide (n4 < 0) = false := decide_eq_false k0
            go_wp2_with fail
            all_goals go_meet
            all_goals exact ⟨by rw [HBK.out, decide_eq_false (show ¬ (n4 < 0 ∨ 200 < n4) by omega)], rfl⟩
      case rest =>
      obtain ⟨rfl, rfl⟩ := hcut
      go_upto_if 80 with fail
      go_cut [17] (fun x wx => x = .int .i64 T ∧ w2 = wx)
      case first =>
        cases BK with
        | true =>
          go_wp2_with fail
          go_meet
          exact ⟨by rw [HTV.out, twoE, if_pos (of_decide_eq_true HBK.out.symm)], rfl⟩
        | false =>
          go_wp2_with fail
          go_meet
          exact ⟨by rw [HTV.out, twoE, if_neg (of_decide_eq_false HBK.out.symm)], rfl⟩
      case rest =>
      obtain ⟨rfl, rfl⟩ := hcut
      go_wp2_with fail
      refine (equal_at B none [] [] _ _ _ _ _ (Ints.nil_ _ _) (Ints.nil_ _ _) rfl rfl).mono ?_
      rintro e w3 ⟨rfl, nw3, hww3⟩
      have bw3 := below_of_drewN hww3
      clear hww3
      replace hb := below_trans hb bw3
      clear bw3
      rw [eqB_true rfl]
      rcases HT.out with ⟨c, rfl, rfl, rfl⟩ | ⟨k0, k1, rfl, rfl, rfl, rfl⟩ | ⟨k0, k1, z, rfl, rfl, rfl, rfl⟩ | ⟨k0, k1, z, q, rfl, v0, v1, f0, f1, rfl⟩
      · clear HT
        go_wp2
        go_ret
        exact ⟨rfl, hb⟩
      · clear HT
        go_wp2
        go_ret
        exact ⟨rfl, hb⟩
      · clear HT
        have s1 : IntKind.i64.wrap (n2 - 1) = n2 - 1 := IntWalk.i64_in _ ⟨by omega, by omega⟩
        obtain ⟨M, hM⟩ : ∃ M, M = n4 * (n2 - 1) := ⟨_, rfl⟩
        have M0 : 0 ≤ M := by rw [hM]; exact Int.mul_nonneg k0 (by omega)
        have M1 : M ≤ 200000000 := by rw [hM]; have := Int.mul_le_mul k1 (show n2 - 1 ≤ 1000000 by omega) (by omega) (by omega); omega
        have s2 : IntKind.i64.wrap (n4 * (n2 - 1)) = M := by rw [← hM]; exact IntWalk.i64_in _ ⟨by omega, by omega⟩
        have s3 : IntKind.i64.wrap (n1 + M) = n1 + M := IntWalk.i64_in _ ⟨by omega, by omega⟩
        have e5 : (n1 + M == 0) = false := by rw [beq_eq_false_iff_ne]; omega
        clear hM
        go_wp2
        go_ret
        exact ⟨rfl, hb⟩
      · clear HT
        have s1 : IntKind.i64.wrap (n2 - 1) = n2 - 1 := IntWalk.i64_in _ ⟨by omega, by omega⟩
        obtain ⟨M, hM⟩ : ∃ M, M = n4 * (n2 - 1) := ⟨_, rfl⟩
        have M0 : 0 ≤ M := by rw [hM]; exact Int.mul_nonneg k0 (by omega)
        have M1 : M ≤ 200000000 := by rw [hM]; have := Int.mul_le_mul k1 (show n2 - 1 ≤ 1000000 by omega) (by omega) (by omega); omega
        have s2 : IntKind.i64.wrap (n4 * (n2 - 1)) = M := by rw [← hM]; exact IntWalk.i64_in _ ⟨by omega, by omega⟩
        have s3 : IntKind.i64.wrap (n1 + M) = n1 + M := IntWalk.i64_in _ ⟨by omega, by omega⟩
        have e5 : (n1 + M == 0) = false := by rw [beq_eq_false_iff_ne]; omega
        have e6 : (n3 == 0) = false := by rw [beq_eq_false_iff_ne]; omega
        rw [← hM] at f0 f1
        obtain ⟨P, hP⟩ : ∃ P, P = (V - 1) * n3 := ⟨_, rfl⟩
        obtain ⟨Q, hQ⟩ : ∃ Q, Q = V * n3 := ⟨_, rfl⟩
        have Q0 : 0 ≤ Q := by rw [hQ]; exact Int.mul_nonneg v0 (by omega)
        have Q1 : Q ≤ 2010000000000 := by rw [hQ]; have := Int.mul_le_mul v1 r1 (by omega) (by omega); omega
        have PQ : P = Q - n3 := by rw [hP, hQ, Int.sub_mul, Int.one_mul]
        have t1 : IntKind.i64.wrap (V - 1) = V - 1 := IntWalk.i64_in _ ⟨by omega, by omega⟩
        have t2 : IntKind.i64.wrap ((V - 1) * n3) = P := by rw [← hP]; exact IntWalk.i64_in _ ⟨by omega, by omega⟩
        have t3 : IntKind.i64.wrap (V * n3) = Q := by rw [← hQ]; exact IntWalk.i64_in _ ⟨by omega, by omega⟩
        rw [← hP] at f0
        rw [← hQ] at f1
        clear hP hQ PQ hM
        go_wp2
        go_ret
        exact ⟨rfl, hb⟩
    · have hR : ruE n1 n2 n3 l3.length = 0 := by rw [ruE, if_neg hbad, if_neg hl]
      have HR := Lib.hid hR
      have i1 : ¬ (200 : Int) < (l3.length : Int) := by omega
      have hle : l3.length ≤ 200 := by omega
      obtain ⟨i0, hi0, hz0, hz1, hz2⟩ := info_parts int_info
      obtain ⟨F, hF⟩ : ∃ F : Nat → Int, F = fun t : Nat => reV n1 n2 n3 (hv l3) (t + 1) := ⟨_, rfl⟩
      have HF : Hid (ruL n1 n2 n3 l3 = tab l3.length F) := Lib.hid (by rw [hF]; rfl)
      have HFV : Hid (∀ t, F t = reV n1 n2 n3 (hv l3) (t + 1)) := Lib.hid (fun t => by rw [hF])
      have e0 : (n2 == 0) = false := by rw [beq_eq_false_iff_ne]; omega
      clear hR hbad hl hF
      go_enter Try.func4, Try.ntmps4
      go_wp2_with fail
      refine (K.run_yes a3 l3 (ruL n1 n2 n3 l3) _ l3.length c3 n1 n2 n3 _ h3 HR (Lib.hid rfl) rfl rfl).mono ?_
      rintro e w1 ⟨Ax, cx, rfl, hx, kx, bw1⟩
      replace h3 := h3.below bw1
      replace hb := below_trans hb bw1
      clear bw1
      go_wp2_with fail
      refine (K.bound_at n1 n2 n3 n4 V E _ HV HE).mono ?_
      rintro e w2 ⟨rfl, bw2⟩
      replace h3 := h3.below bw2
      replace hx := hx.below bw2
      replace hb := below_trans hb bw2
      clear bw2
      go_upto_region 9 with fail
      go_cut [80] (fun x wx => x = .bool BK ∧ w2 = wx)
      case first =>
        by_cases k0 : n4 < 0
        · have d7 : decide (n4 < 0) = true := decide_eq_true k0
          go_wp2_with fail
          all_goals go_meet
          all_goals exact ⟨by rw [HBK.out, decide_eq_true (show n4 < 0 ∨ 200 < n4 by omega)], rfl⟩
        · by_cases k1 : 200 < n4
          · have d7 : decide (200 < n4) = true := decide_eq_true k1
            have d8 : decide (n4 < 0) = false := decide_eq_false k0
            go_wp2_with fail
            all_goals go_meet
            all_goals exact ⟨by rw [HBK.out, decide_eq_true (show n4 < 0 ∨ 200 < n4 by omega)], rfl⟩
          · have d7 : decide (200 < n4) = false := decide_eq_false k1
            have d8 : decide (n4 < 0) = false := decide_eq_false k0
            go_wp2_with fail
            all_goals go_meet
            all_goals exact ⟨by rw [HBK.out, decide_eq_false (show ¬ (n4 < 0 ∨ 200 < n4) by omega)], rfl⟩
      case rest =>
      obtain ⟨rfl, rfl⟩ := hcut
      go_upto_if 80 with fail
      go_cut [17] (fun x wx => x = .int .i64 T ∧ w2 = wx)
      case first =>
        cases BK with
        | true =>
          go_wp2_with fail
          go_meet
          exact ⟨by rw [HTV.out, twoE, if_pos (of_decide_eq_true HBK.out.symm)], rfl⟩
        | false =>
          go_wp2_with fail
          go_meet
          exact ⟨by rw [HTV.out, twoE, if_neg (of_decide_eq_false HBK.out.symm)], rfl⟩
      case rest =>
      obtain ⟨rfl, rfl⟩ := hcut
      go_wp2
      go_loopw [18, 19, 20, 85] (fun o y z i wr => ∃ (t : Nat) (W p q : Int), t ≤ l3.length ∧ y = .int .i64 W ∧ z = .int .i64 p ∧ i = .int .i64 t ∧ 0 ≤ W ∧ 0 ≤ p ∧ Hid (W = q * n2) ∧ Hid (W + p = reV n1 n2 n3 (hv l3) t) ∧ W + p ≤ n1 ∧ wr.ownsRow w2.heap.size 3 1 o t ((tab t F).map (Value.int .i64)) ∧ Below w2.heap.size w2 wr) (fun _ _ _ i _ => l3.length - (intOf i).toNat)
      case atStart => exact ⟨0, 0, 0, 0, Nat.zero_le _, rfl, rfl, rfl, Int.le_refl _, Int.le_refl _, Lib.hid (by omega), Lib.hid rfl, by omega, by rw [tab_zero]; exact World.ownsRow_nil _ _ _ _, Below.refl _ _⟩
      case round =>
        obtain ⟨t, W, p, q, ht, rfl, rfl, rfl, W0, p0, HQ, HWP, hs, hown, hbel⟩ := hrel
        by_cases hlt : t < l3.length
        · obtain ⟨b2, o2, b, e2, hc2, HB⟩ := (h3.below hbel).get hlt
          subst e2
          have hv' : hv l3 t = b := by rw [hv, List.getD, HB.out]; rfl
          have j1 : (t : Int) < (l3.length : Int) := by omega
          obtain ⟨p1, hp1⟩ : ∃ p1, p1 = min (p + n3) (n1 - W) := ⟨_, rfl⟩
          have p10 : 0 ≤ p1 := by omega
          have p11 : p1 ≤ n1 - W := by omega
          obtain ⟨Q, hQ⟩ : ∃ Q, Q = p1 / n2 := ⟨_, rfl⟩
          have hdv := div_slot (p := p1) (show 0 < n2 by omega)
          rw [← hQ] at hdv
          obtain ⟨M, hM⟩ : ∃ M, M = Q * n2 := ⟨_, rfl⟩
          have Q0 : 0 ≤ Q := by rw [hQ]; exact Int.ediv_nonneg p10 (by omega)
          have Q1 : Q ≤ p1 := by rw [hQ]; exact Int.ediv_le_self (b := n2) p10
          have M0 : 0 ≤ M := by rw [hM]; exact Int.mul_nonneg Q0 (by omega)
          have M1 : M ≤ p1 := by omega
          obtain ⟨p2, hp2⟩ : ∃ p2, p2 = if b = true ∧ W + p1 < n1 then M else p1 := ⟨_, rfl⟩
          have p20 : 0 ≤ p2 := by rw [hp2]; split <;> omega
          have p21 : p2 ≤ p1 := by rw [hp2]; split <;> omega
          have hre := re_part (b := b) (p2 := p2) u0 HWP.out HQ.out hp1 (by rw [hp2, hM, hQ])
          have HRE : Hid (W + p2 = reV n1 n2 n3 (hv l3) (t + 1)) := Lib.hid (by rw [hre, reV, hv'])
          have HP1 := Lib.hid hp1
          obtain ⟨CB, hCB⟩ : ∃ CB, CB = (b && decide (W + p1 < n1)) := ⟨_, rfl⟩
          have HCB := Lib.hid hCB
          have PT : Hid (CB = true → p2 = M) := Lib.hid (fun h => by rw [hp2, if_pos]; rw [hCB, Bool.and_eq_true, decide_eq_true_eq] at h; exact h)
          have PF : Hid (CB = false → p2 = p1) := Lib.hid (fun h => by rw [hp2, if_neg]; intro q; rw [hCB, q.1, decide_eq_true q.2] at h; cases h)
          clear hCB
          have a1 : IntKind.i64.wrap (p + n3) = p + n3 := IntWalk.i64_in _ ⟨by omega, by omega⟩
          have a2 : IntKind.i64.wrap (n1 - W) = n1 - W := IntWalk.i64_in _ ⟨by omega, by omega⟩
          have a3 : IntKind.i64.wrap (W + p1) = W + p1 := IntWalk.i64_in _ ⟨by omega, by omega⟩
          have a4 : Int.tdiv p1 n2 = Q := by rw [hQ, Int.tdiv_eq_ediv_of_nonneg p10]
          have a5 : IntKind.i64.wrap Q = Q := IntWalk.i64_in _ ⟨by omega, by omega⟩
          have a6 : IntKind.i64.wrap (Q * n2) = M := by rw [← hM]; exact IntWalk.i64_in _ ⟨by omega, by omega⟩
          have a8 : IntKind.i64.wrap (W + p2) = W + p2 := IntWalk.i64_in _ ⟨by omega, by omega⟩
          clear hp1 hQ hM hdv hp2 hre hv'
          go_upto_region 17 with fail
          go_cut [20] (fun x wx => x = .int .i64 p1 ∧ wr = wx)
          case first =>
            rcases Int.lt_trichotomy (p + n3) (n1 - W) with k | k | k
            all_goals
              go_wp2_with fail
              go_meet
              refine ⟨?_, rfl⟩
              have := HP1.out
              congr 1
              omega
          case rest =>
          obtain ⟨rfl, rfl⟩ := hcut
          go_upto_region 18 with fail
          go_cut [103] (fun x wx => x = .bool CB ∧ wr = wx)
          case first =>
            cases b with
            | false =>
              have C0 : Hid (CB = false) := Lib.hid (by rw [HCB.out]; rfl)
              go_wp2_with fail
              all_goals go_meet
              all_goals exact ⟨by rw [C0.out], rfl⟩
            | true =>
              by_cases k : W + p1 < n1
              · have d9 : decide (W + p1 < n1) = true := decide_eq_true k
                have C0 : Hid (CB = true) := Lib.hid (by rw [HCB.out, d9]; rfl)
                go_wp2_with fail
                all_goals go_meet
                all_goals exact ⟨by rw [C0.out], rfl⟩
              · have d9 : decide (W + p1 < n1) = false := decide_eq_false k
                have C0 : Hid (CB = false) := Lib.hid (by rw [HCB.out, d9]; rfl)
                go_wp2_with fail
                all_goals go_meet
                all_goals exact ⟨by rw [C0.out], rfl⟩
          case rest =>
          obtain ⟨rfl, rfl⟩ := hcut
          go_upto_if 103 with fail
          go_cut [20] (fun x wx => x = .int .i64 p2 ∧ wr = wx)
          case first =>
            cases CB with
            | true =>
              have HM2 := Lib.hid (PT.out rfl)
              clear HCB PT PF
              go_wp2_with fail
              go_meet
              exact ⟨by rw [HM2.out], rfl⟩
            | false =>
              have HM2 := Lib.hid (PF.out rfl)
              clear HCB PT PF
              go_wp2_with fail
              go_meet
              exact ⟨by rw [HM2.out], rfl⟩
          case rest =>
          obtain ⟨rfl, rfl⟩ := hcut
          have HF1 : Hid (F t = W + p2) := Lib.hid (by rw [HFV.out, HRE.out])
          have hbs := hbel.size
          obtain ⟨D, hD⟩ : ∃ D, D = p2 % n2 := ⟨_, rfl⟩
          have a9 : Int.tmod p2 n2 = D := by rw [hD, Int.tmod_eq_emod_of_nonneg p20]
          have hdm := Int.mul_ediv_add_emod p2 n2
          rw [← hD, Int.mul_comm] at hdm
          have D0 : 0 ≤ D := by rw [hD]; exact Int.emod_nonneg p2 (by omega)
          have D1 : D < n2 := by rw [hD]; exact Int.emod_lt_of_pos p2 (by omega)
          have a10 : IntKind.i64.wrap D = D := IntWalk.i64_in _ ⟨by omega, by omega⟩
          clear hD HP1 HCB PT PF a1 a2 a3 a4 a5 a6
          by_cases z : D = 0
          · subst z
            have HQ2 : Hid (W + p2 = (q + p2 / n2) * n2) := Lib.hid (by rw [Int.add_mul, ← HQ.out]; omega)
            have HWN : Hid (W + p2 + 0 = reV n1 n2 n3 (hv l3) (t + 1)) := Lib.hid (by rw [Int.add_zero]; exact HRE.out)
            clear hdm
            go_wp2_with (at_builtin; refine wpList_append_own _ rfl _ _ 22 rfl w2.heap.size 3 i0 (.int .i64 0) 1 8 Try.underlying22 hi0 hz0 hz1 hz2 rfl (by decide) _ _ _ rfl (World.ownsRow.alloc hown _) ⟨wr.heap.size, 0, none⟩ 1 1 [.int .i64 (W + p2)] rfl rfl ?kaa ?kab ?kac ?kad ?kae ?_)
            case kaa => exact new_one2 _ _ _
            case kab => exact one_cell2 _
            case kac => unfold maxLen; omega
            case kad => omega
            case kae => simp; omega
            intro v' w3 hown' hgrow _
            have hbel' : Below w2.heap.size w2 w3 := ((hbel.alloc hbel.size _).grown hgrow (by simp; omega) (fun k hk => (hown.lt k hk).1))
            have hown'' : w3.ownsRow w2.heap.size 3 1 v' (t + 1) ((tab (t + 1) F).map (Value.int .i64)) := by rw [tab_succ, List.map_append, HF1.out]; exact hown'
            clear hown' hgrow hown hbel
            go_wp2
            go_roundw
            case rel => exact ⟨t + 1, W + p2, 0, q + p2 / n2, by omega, rfl, rfl, by go_num, by omega, by omega, HQ2, HWN, by omega, hown'', hbel'⟩
            case measure => simp [intOf]; omega
          · have z1 : (D == 0) = false := by rw [beq_eq_false_iff_ne]; exact z
            clear hdm
            go_wp2_with (at_builtin; refine wpList_append_own _ rfl _ _ 22 rfl w2.heap.size 3 i0 (.int .i64 0) 1 8 Try.underlying22 hi0 hz0 hz1 hz2 rfl (by decide) _ _ _ rfl (World.ownsRow.alloc hown _) ⟨wr.heap.size, 0, none⟩ 1 1 [.int .i64 (W + p2)] rfl rfl ?kba ?kbb ?kbc ?kbd ?kbe ?_)
            case kba => exact new_one2 _ _ _
            case kbb => exact one_cell2 _
            case kbc => unfold maxLen; omega
            case kbd => omega
            case kbe => simp; omega
            intro v' w3 hown' hgrow _
            have hbel' : Below w2.heap.size w2 w3 := ((hbel.alloc hbel.size _).grown hgrow (by simp; omega) (fun k hk => (hown.lt k hk).1))
            have hown'' : w3.ownsRow w2.heap.size 3 1 v' (t + 1) ((tab (t + 1) F).map (Value.int .i64)) := by rw [tab_succ, List.map_append, HF1.out]; exact hown'
            clear hown' hgrow hown hbel
            go_wp2
            go_roundw
            case rel => exact ⟨t + 1, W, p2, q, by omega, rfl, rfl, by go_num, by omega, by omega, HQ, HRE, by omega, hown'', hbel'⟩
            case measure => simp [intOf]; omega
        · obtain rfl : t = l3.length := by omega
          obtain ⟨B, d, rfl⟩ := row_formR hown
          have hB : Ints wr B (tab l3.length F) := Ints.of_own (by rw [length_tab]; exact hown)
          replace hx := hx.below hbel
          replace hb := below_trans hb hbel
          clear hown hbel HQ HWP
          go_wp2_with fail
          refine (equal_at Ax B (ruL n1 n2 n3 l3) (tab l3.length F) _ _ _ _ _ hx hB (length_ruL _ _ _ _).symm (length_tab _ _).symm).mono ?_
          rintro e w3 ⟨rfl, nw3, hww3⟩
          have bw3 := below_of_drewN hww3
          clear hww3
          replace hb := below_trans hb bw3
          clear bw3
          rw [eqB_true HF.out]
          rcases HT.out with ⟨c, rfl, rfl, rfl⟩ | ⟨k0, k1, rfl, rfl, rfl, rfl⟩ | ⟨k0, k1, z, rfl, rfl, rfl, rfl⟩ | ⟨k0, k1, z, q, rfl, v0, v1, f0, f1, rfl⟩
          · clear HT
            go_wp2
            go_ret
            exact ⟨rfl, hb⟩
          · clear HT
            go_wp2
            go_ret
            exact ⟨rfl, hb⟩
          · clear HT
            have s1 : IntKind.i64.wrap (n2 - 1) = n2 - 1 := IntWalk.i64_in _ ⟨by omega, by omega⟩
            obtain ⟨M, hM⟩ : ∃ M, M = n4 * (n2 - 1) := ⟨_, rfl⟩
            have M0 : 0 ≤ M := by rw [hM]; exact Int.mul_nonneg k0 (by omega)
            have M1 : M ≤ 200000000 := by rw [hM]; have := Int.mul_le_mul k1 (show n2 - 1 ≤ 1000000 by omega) (by omega) (by omega); omega
            have s2 : IntKind.i64.wrap (n4 * (n2 - 1)) = M := by rw [← hM]; exact IntWalk.i64_in _ ⟨by omega, by omega⟩
            have s3 : IntKind.i64.wrap (n1 + M) = n1 + M := IntWalk.i64_in _ ⟨by omega, by omega⟩
            have e5 : (n1 + M == 0) = false := by rw [beq_eq_false_iff_ne]; omega
            clear hM
            go_wp2
            go_ret
            exact ⟨rfl, hb⟩
          · clear HT
            have s1 : IntKind.i64.wrap (n2 - 1) = n2 - 1 := IntWalk.i64_in _ ⟨by omega, by omega⟩
            obtain ⟨M, hM⟩ : ∃ M, M = n4 * (n2 - 1) := ⟨_, rfl⟩
            have M0 : 0 ≤ M := by rw [hM]; exact Int.mul_nonneg k0 (by omega)
            have M1 : M ≤ 200000000 := by rw [hM]; have := Int.mul_le_mul k1 (show n2 - 1 ≤ 1000000 by omega) (by omega) (by omega); omega
            have s2 : IntKind.i64.wrap (n4 * (n2 - 1)) = M := by rw [← hM]; exact IntWalk.i64_in _ ⟨by omega, by omega⟩
            have s3 : IntKind.i64.wrap (n1 + M) = n1 + M := IntWalk.i64_in _ ⟨by omega, by omega⟩
            have e5 : (n1 + M == 0) = false := by rw [beq_eq_false_iff_ne]; omega
            have e6 : (n3 == 0) = false := by rw [beq_eq_false_iff_ne]; omega
            rw [← hM] at f0 f1
            obtain ⟨P, hP⟩ : ∃ P, P = (V - 1) * n3 := ⟨_, rfl⟩
            obtain ⟨Q, hQ⟩ : ∃ Q, Q = V * n3 := ⟨_, rfl⟩
            have Q0 : 0 ≤ Q := by rw [hQ]; exact Int.mul_nonneg v0 (by omega)
            have Q1 : Q ≤ 2010000000000 := by rw [hQ]; have := Int.mul_le_mul v1 r1 (by omega) (by omega); omega
            have PQ : P = Q - n3 := by rw [hP, hQ, Int.sub_mul, Int.one_mul]
            have t1 : IntKind.i64.wrap (V - 1) = V - 1 := IntWalk.i64_in _ ⟨by omega, by omega⟩
            have t2 : IntKind.i64.wrap ((V - 1) * n3) = P := by rw [← hP]; exact IntWalk.i64_in _ ⟨by omega, by omega⟩
            have t3 : IntKind.i64.wrap (V * n3) = Q := by rw [← hQ]; exact IntWalk.i64_in _ ⟨by omega, by omega⟩
            rw [← hP] at f0
            rw [← hQ] at f1
            clear hP hQ PQ hM
            go_wp2
            go_ret
            exact ⟨rfl, hb⟩

end Go.Proofs.Ytjlkcjaofglpmaa
